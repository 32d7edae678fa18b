/-
  Least levels by raising each room along its wires, round by round: as many rounds as there are rooms are enough.
-/
import Derived.Test.YtbnliibgnnegeagDoorLevM
namespace Go.Proofs.YtbnliibgnnegeagDoor

/-- How much a wire raises. -/
def rise (l : List W4) (x : W4) : Nat := if way l x.2.1.toNat x.1.toNat = true then 0 else 1
/-- One wire. -/
def lvS (l : List W4) (o : Nat → Nat) (x : W4) : Nat → Nat := fun r => if r = x.2.1.toNat then max (o r) (o x.1.toNat + rise l x) else o r
/-- Some wires. -/
def lvR (l : List W4) (o : Nat → Nat) (m : List W4) : Nat → Nat := m.foldl (lvS l) o
/-- Some rounds. -/
def lvN (l : List W4) : Nat → Nat → Nat
  | 0 => fun _ => 0
  | n + 1 => lvR l (lvN l n) l
theorem lvR_snoc (l : List W4) (o : Nat → Nat) (m : List W4) (x : W4) : lvR l o (m ++ [x]) = lvS l (lvR l o m) x := by
  unfold lvR
  rw [List.foldl_append]
  rfl
theorem lvS_ge (l : List W4) (o : Nat → Nat) (x : W4) (r : Nat) : o r ≤ lvS l o x r := by
  unfold lvS
  split
  · exact Nat.le_max_left _ _
  · exact Nat.le_refl _
theorem lvR_ge (l : List W4) : ∀ (m : List W4) (o : Nat → Nat) (r : Nat), o r ≤ lvR l o m r
  | [], _, _ => Nat.le_refl _
  | x :: m, o, r => Nat.le_trans (lvS_ge l o x r) (lvR_ge l m (lvS l o x) r)
theorem lvR_tight (l : List W4) : ∀ (m : List W4) (o : Nat → Nat) (x : W4), x ∈ m → o x.1.toNat + rise l x ≤ lvR l o m x.2.1.toNat
  | [], _, _, h => by cases h
  | y :: m, o, x, h => by
    rcases List.mem_cons.1 h with e | e
    · subst e
      refine Nat.le_trans ?_ (lvR_ge l m (lvS l o x) _)
      unfold lvS
      rw [if_pos rfl]
      exact Nat.le_max_right _ _
    · refine Nat.le_trans ?_ (lvR_tight l m (lvS l o y) x e)
      exact Nat.add_le_add_right (lvS_ge l o y _) _
theorem lev_rise {l : List W4} (hok : ∀ x ∈ l, w4chk x = 0) {x : W4} (hx : x ∈ l) : lev l x.1.toNat + rise l x ≤ lev l x.2.1.toNat := by
  obtain ⟨h1, h2, h3, h4, _⟩ := w4_rooms (hok x hx)
  have hw := way_wire hx (hok x hx)
  unfold rise
  cases hb : way l x.2.1.toNat x.1.toNat with
  | true =>
    rw [if_pos rfl, lev_same hok (a := x.1.toNat) (b := x.2.1.toNat) (by omega) (by omega) (by simp [both, hw, hb])]
    omega
  | false =>
    have := lev_up hok hx (by simp [both, hb])
    rw [if_neg (by simp)]
    omega
theorem lvS_le {l : List W4} (hok : ∀ x ∈ l, w4chk x = 0) {o : Nat → Nat} (h : ∀ r, r < 5 → o r ≤ lev l r) {x : W4} (hx : x ∈ l) : ∀ r, r < 5 → lvS l o x r ≤ lev l r := fun r hr => by
  obtain ⟨h1, h2, h3, h4, _⟩ := w4_rooms (hok x hx)
  unfold lvS
  split
  · rename_i e
    subst e
    have h5 := h _ hr
    have h6 := h x.1.toNat (by omega)
    have h7 := lev_rise hok hx
    exact Nat.max_le.2 ⟨h5, by omega⟩
  · exact h r hr
theorem lvR_le {l : List W4} (hok : ∀ x ∈ l, w4chk x = 0) : ∀ (m : List W4) (o : Nat → Nat), (∀ x ∈ m, x ∈ l) → (∀ r, r < 5 → o r ≤ lev l r) → ∀ r, r < 5 → lvR l o m r ≤ lev l r
  | [], _, _, h => h
  | x :: m, o, hm, h => lvR_le hok m (lvS l o x) (fun y hy => hm y (List.mem_cons_of_mem _ hy)) (lvS_le hok h (hm x (List.mem_cons_self ..)))
theorem lvN_le {l : List W4} (hok : ∀ x ∈ l, w4chk x = 0) : ∀ n r, r < 5 → lvN l n r ≤ lev l r
  | 0, _, _ => Nat.zero_le _
  | n + 1, r, hr => lvR_le hok l (lvN l n) (fun _ hx => hx) (lvN_le hok n) r hr
/-- Between two rounds. -/
theorem lvT_le {l : List W4} (hok : ∀ x ∈ l, w4chk x = 0) (n k : Nat) {r : Nat} (hr : r < 5) : lvR l (lvN l n) (l.take k) r ≤ lev l r :=
  lvR_le hok _ _ (fun _ hx => List.mem_of_mem_take hx) (lvN_le hok n) r hr
theorem lev_fix {l : List W4} (hok : ∀ x ∈ l, w4chk x = 0) {o : Nat → Nat} (h : ∀ x ∈ l, o x.1.toNat + rise l x ≤ o x.2.1.toNat) {r : Nat} (hr : r < 5) : lev l r ≤ o r := by
  have hw : ∀ {a b : Nat}, way l a b = true → o a ≤ o b := fun {a b} hab => way_least (R := fun i k => o i ≤ o k) (fun i => Nat.le_refl _) (fun x hx i k e1 e2 => by
    have := h x hx
    rw [e1, e2] at this
    simp only [Int.toNat_natCast] at this
    show o i ≤ o k
    omega) (fun i j k a b => Nat.le_trans a b) hab
  have := lev_least hok (o := fun r => (o r : Int)) (fun r _ => by omega) (fun x hx => by
    have h1 := h x hx
    unfold rise at h1
    cases hb : way l x.2.1.toNat x.1.toNat with
    | true =>
      rw [hb, if_pos rfl] at h1
      have h2 := hw hb
      exact Or.inr ⟨by simp [both, hb, way_wire hx (hok x hx)], by omega⟩
    | false =>
      rw [hb, if_neg (by simp)] at h1
      exact Or.inl (by omega)) hr
  omega
/-- Each round comes to one room more, till all are as they must be. -/
theorem lvN_grow {l : List W4} (hok : ∀ x ∈ l, w4chk x = 0) (n : Nat) (h : ∃ r, r < 5 ∧ lvN l n r ≠ lev l r) : ∃ r, r < 5 ∧ lvN l (n + 1) r = lev l r ∧ lvN l n r ≠ lev l r := by
  obtain ⟨r, hr, hne⟩ := h
  have hle := lvN_le hok n
  by_cases hall : ∀ x ∈ l, (fun r => if lvN l n r = lev l r then lev l r else lev l r - 1) x.1.toNat + rise l x ≤ (fun r => if lvN l n r = lev l r then lev l r else lev l r - 1) x.2.1.toNat
  · have := lev_fix hok (o := fun r => if lvN l n r = lev l r then lev l r else lev l r - 1) hall hr
    simp only [if_neg hne] at this
    have := hle r hr
    omega
  · obtain ⟨x, hx⟩ := Classical.not_forall.1 hall
    obtain ⟨hx, hlt⟩ := Classical.not_imp.1 hx
    obtain ⟨h1, h2, h3, h4, _⟩ := w4_rooms (hok x hx)
    have ha := hle x.1.toNat (by omega)
    have hb := hle x.2.1.toNat (by omega)
    have hlr := lev_rise hok hx
    have htg := lvR_tight l l (lvN l n) x hx
    have hup := lvN_le hok (n + 1) x.2.1.toNat (by omega)
    have htg' : lvN l n x.1.toNat + rise l x ≤ lvN l (n + 1) x.2.1.toNat := htg
    simp only at hlt
    by_cases e1 : lvN l n x.1.toNat = lev l x.1.toNat
    · rw [if_pos e1] at hlt
      by_cases e2 : lvN l n x.2.1.toNat = lev l x.2.1.toNat
      · rw [if_pos e2] at hlt
        omega
      · rw [if_neg e2] at hlt
        exact ⟨x.2.1.toNat, by omega, by omega, e2⟩
    · rw [if_neg e1] at hlt
      by_cases e2 : lvN l n x.2.1.toNat = lev l x.2.1.toNat
      · rw [if_pos e2] at hlt
        omega
      · rw [if_neg e2] at hlt
        omega
theorem lvN_more {l : List W4} (hok : ∀ x ∈ l, w4chk x = 0) {n r : Nat} (hr : r < 5) (h : lvN l n r = lev l r) : lvN l (n + 1) r = lev l r := by
  have h1 := lvN_le hok (n + 1) r hr
  have h2 : lvN l n r ≤ lvN l (n + 1) r := lvR_ge l l (lvN l n) r
  omega
theorem lvN_count {l : List W4} (hok : ∀ x ∈ l, w4chk x = 0) : ∀ n, (∀ r, r < 5 → lvN l n r = lev l r) ∨ n ≤ ((List.range 5).filter fun r => decide (lvN l n r = lev l r)).length
  | 0 => Or.inr (Nat.zero_le _)
  | n + 1 => by
    by_cases hall : ∀ r, r < 5 → lvN l n r = lev l r
    · exact Or.inl (fun r hr => lvN_more hok hr (hall r hr))
    · rcases lvN_count hok n with h | h
      · exact absurd h hall
      · obtain ⟨r, hr⟩ := Classical.not_forall.1 hall
        obtain ⟨hr, hne⟩ := Classical.not_imp.1 hr
        obtain ⟨q, h1, h2, h3⟩ := lvN_grow hok n ⟨r, hr, hne⟩
        have := filt_lt (p := fun r => decide (lvN l n r = lev l r)) (q := fun r => decide (lvN l (n + 1) r = lev l r)) (l := List.range 5) (fun y hy hp => by
          rw [decide_eq_true_eq] at hp ⊢
          exact lvN_more hok (List.mem_range.1 hy) hp) ⟨q, List.mem_range.2 h1, by simp [h2], by simp [h3]⟩
        exact Or.inr (by omega)
theorem lvN_five {l : List W4} (hok : ∀ x ∈ l, w4chk x = 0) {r : Nat} (hr : r < 5) : lvN l 5 r = lev l r := by
  rcases lvN_count hok 5 with h | h
  · exact h r hr
  · by_cases hne : lvN l 5 r = lev l r
    · exact hne
    · have := filt_lt (p := fun r => decide (lvN l 5 r = lev l r)) (q := fun _ => true) (l := List.range 5) (fun _ _ _ => rfl) ⟨r, List.mem_range.2 hr, rfl, by simp [hne]⟩
      have h2 := List.length_filter_le (fun _ : Nat => true) (List.range 5)
      rw [List.length_range] at h2
      omega
end Go.Proofs.YtbnliibgnnegeagDoor

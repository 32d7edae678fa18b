/-
  Who reaches whom, plain: by wires, over rooms below a number; what is wrong with wires; levels.
-/
import Derived.Test.YtbnliibgnnegeagDoorWMath
namespace Go.Proofs.YtbnliibgnnegeagDoor

/-- A wire: from, to, kind, deep. -/
abbrev W4 := Int × Int × Int × Int
def w4chk (x : W4) : Int := wchk x.1 x.2.1 x.2.2.1 x.2.2.2
/-- Is there a wire from one to another one, or are they the same? -/
def edge (l : List W4) (i k : Nat) : Bool := decide (i = k) || l.any fun x => decide (x.1 = (i : Int)) && decide (x.2.1 = (k : Int))
/-- Is there a way, with none but rooms below m between? -/
def pm (e : Nat → Nat → Bool) : Nat → Nat → Nat → Bool
  | 0, i, k => e i k
  | m + 1, i, k => pm e m i k || (pm e m i m && pm e m m k)
theorem pm_zero (e : Nat → Nat → Bool) (i k : Nat) : pm e 0 i k = e i k := rfl
theorem pm_succ (e : Nat → Nat → Bool) (m i k : Nat) : pm e (m + 1) i k = (pm e m i k || (pm e m i m && pm e m m k)) := rfl
theorem pm_grow {e : Nat → Nat → Bool} {m i k : Nat} (h : pm e m i k = true) : pm e (m + 1) i k = true := by rw [pm_succ, h]; rfl
theorem pm_col {e : Nat → Nat → Bool} {m i : Nat} (h : pm e (m + 1) i m = true) : pm e m i m = true := by
  rw [pm_succ] at h
  cases h1 : pm e m i m
  · rw [h1] at h; simp at h
  · rfl
theorem pm_row {e : Nat → Nat → Bool} {m k : Nat} (h : pm e (m + 1) m k = true) : pm e m m k = true := by
  rw [pm_succ] at h
  cases h1 : pm e m m k
  · rw [h1] at h; simp at h
  · rfl
theorem pm_via {e : Nat → Nat → Bool} {m i k : Nat} (h1 : pm e m i m = true) (h2 : pm e m m k = true) : pm e (m + 1) i k = true := by rw [pm_succ, h1, h2]; simp
theorem pm_cases {e : Nat → Nat → Bool} {m i k : Nat} (h : pm e (m + 1) i k = true) : pm e m i k = true ∨ (pm e m i m = true ∧ pm e m m k = true) := by
  rw [pm_succ] at h
  simpa using h
theorem pm_trans (e : Nat → Nat → Bool) : ∀ (m i j k : Nat), j < m → pm e m i j = true → pm e m j k = true → pm e m i k = true
  | 0, i, j, k, h, _, _ => absurd h (Nat.not_lt_zero _)
  | m + 1, i, j, k, hj, h1, h2 => by
    by_cases hjm : j = m
    · subst hjm
      exact pm_via (pm_col h1) (pm_row h2)
    · have hj' : j < m := by omega
      rcases pm_cases h1 with a | ⟨a, b⟩
      · rcases pm_cases h2 with c | ⟨c, d⟩
        · exact pm_grow (pm_trans e m i j k hj' a c)
        · exact pm_via (pm_trans e m i j m hj' a c) d
      · rcases pm_cases h2 with c | ⟨c, d⟩
        · exact pm_via a (pm_trans e m m j k hj' b c)
        · exact pm_via a d
theorem pm_edge (e : Nat → Nat → Bool) : ∀ (m i k : Nat), e i k = true → pm e m i k = true
  | 0, _, _, h => h
  | m + 1, i, k, h => pm_grow (pm_edge e m i k h)
theorem pm_mono {e f : Nat → Nat → Bool} (h : ∀ i k, e i k = true → f i k = true) : ∀ (m i k : Nat), pm e m i k = true → pm f m i k = true
  | 0, i, k, h1 => h i k h1
  | m + 1, i, k, h1 => by
    rcases pm_cases h1 with a | ⟨a, b⟩
    · exact pm_grow (pm_mono h m i k a)
    · exact pm_via (pm_mono h m i m a) (pm_mono h m m k b)
/-- What each edge keeps, and what goes from one to the next, each way keeps. -/
theorem pm_keep {e : Nat → Nat → Bool} {R : Nat → Nat → Prop} (he : ∀ i k, e i k = true → R i k) (ht : ∀ i j k, R i j → R j k → R i k) : ∀ (m i k : Nat), pm e m i k = true → R i k
  | 0, i, k, h => he i k h
  | m + 1, i, k, h => by
    rcases pm_cases h with a | ⟨a, b⟩
    · exact pm_keep he ht m i k a
    · exact ht i m k (pm_keep he ht m i m a) (pm_keep he ht m m k b)
/-- Who reaches whom. -/
def way (l : List W4) (i k : Nat) : Bool := pm (edge l) 5 i k
theorem way_self (l : List W4) (i : Nat) : way l i i = true := pm_edge _ 5 i i (by simp [edge])
theorem way_trans (l : List W4) {i j k : Nat} (hj : j < 5) (h1 : way l i j = true) (h2 : way l j k = true) : way l i k = true := pm_trans _ 5 i j k hj h1 h2
theorem edge_more (l m : List W4) {i k : Nat} (h : edge l i k = true) : edge (l ++ m) i k = true := by
  simp only [edge, Bool.or_eq_true, List.any_append] at h ⊢
  rcases h with h | h
  · exact Or.inl h
  · exact Or.inr (Or.inl h)
theorem way_more (l m : List W4) {i k : Nat} (h : way l i k = true) : way (l ++ m) i k = true := pm_mono (fun _ _ h => edge_more l m h) 5 i k h
theorem edge_wire {l : List W4} {x : W4} (hx : x ∈ l) {i k : Nat} (h1 : x.1 = (i : Int)) (h2 : x.2.1 = (k : Int)) : edge l i k = true := by
  simp only [edge, Bool.or_eq_true, List.any_eq_true]
  exact Or.inr ⟨x, hx, by simp [h1, h2]⟩
/-- Whoever is reached by a step that starts where it is reached: the least such relation. -/
theorem way_least {l : List W4} {R : Nat → Nat → Prop} (hr : ∀ i, R i i) (hw : ∀ x ∈ l, ∀ i k : Nat, x.1 = (i : Int) → x.2.1 = (k : Int) → R i k) (ht : ∀ i j k, R i j → R j k → R i k) {i k : Nat} (h : way l i k = true) : R i k := by
  refine pm_keep (fun i k he => ?_) ht 5 i k h
  simp only [edge, Bool.or_eq_true, decide_eq_true_eq, List.any_eq_true, Bool.and_eq_true] at he
  rcases he with rfl | ⟨x, hx, h1, h2⟩
  · exact hr i
  · exact hw x hx i k h1 h2
/-- The first that is wrong. -/
def wscan : List W4 → Nat → Int × Int
  | [], _ => (0, 0)
  | x :: l, i => if w4chk x = 0 then wscan l (i + 1) else ((i : Int), w4chk x)
/-- What is wrong with wires: which, and how. -/
def wschk (l : List W4) : Int × Int := if 12 < l.length then (0, 4) else wscan l 0
theorem wscan_ok : ∀ {l : List W4} {i : Nat}, (wscan l i).2 = 0 → ∀ x ∈ l, w4chk x = 0
  | [], _, _, x, hx => by simp at hx
  | y :: l, i, h, x, hx => by
    unfold wscan at h
    by_cases hy : w4chk y = 0
    · rw [if_pos hy] at h
      rcases List.mem_cons.1 hx with rfl | hx
      · exact hy
      · exact wscan_ok h x hx
    · rw [if_neg hy] at h
      exact absurd h hy
theorem wschk_ok {l : List W4} (h : (wschk l).2 = 0) : l.length ≤ 12 ∧ ∀ x ∈ l, w4chk x = 0 := by
  unfold wschk at h
  by_cases hl : 12 < l.length
  · rw [if_pos hl] at h; simp at h
  · rw [if_neg hl] at h
    exact ⟨by omega, wscan_ok h⟩
theorem wscan_skip : ∀ (l : List W4) (k i : Nat), (∀ j x, j < k → l[j]? = some x → w4chk x = 0) → wscan l i = wscan (l.drop k) (i + k)
  | l, 0, i, _ => by simp
  | [], k + 1, i, _ => by simp [wscan]
  | x :: l, k + 1, i, h => by
    have hx : w4chk x = 0 := h 0 x (by omega) rfl
    have := wscan_skip l k (i + 1) (fun j y hj hy => h (j + 1) y (by omega) (by simpa using hy))
    simp only [wscan, hx, if_true, List.drop_succ_cons, this]
    congr 1
    omega
theorem wscan_hit {l : List W4} {k : Nat} {x : W4} (h : ∀ j y, j < k → l[j]? = some y → w4chk y = 0) (hx : l[k]? = some x) (hb : w4chk x ≠ 0) : wscan l 0 = ((k : Int), w4chk x) := by
  rw [wscan_skip l k 0 h]
  obtain ⟨hk, rfl⟩ := List.getElem?_eq_some_iff.1 hx
  rw [List.drop_eq_getElem_cons hk, wscan, if_neg hb, Nat.zero_add]
theorem wscan_none {l : List W4} (h : ∀ j y, j < l.length → l[j]? = some y → w4chk y = 0) : wscan l 0 = (0, 0) := by
  rw [wscan_skip l l.length 0 h]
  simp [wscan]
theorem w4_rooms {x : W4} (h : w4chk x = 0) : 0 ≤ x.1 ∧ x.1 < 5 ∧ 0 ≤ x.2.1 ∧ x.2.1 < 5 ∧ x.1 ≠ x.2.1 := by
  unfold w4chk wchk at h
  split at h
  · rename_i hc
    split at h
    · simp at h
    · omega
  · simp at h
end Go.Proofs.YtbnliibgnnegeagDoor

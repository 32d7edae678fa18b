/-
  Who reaches whom, five rows of five in a block: what it is between; all ways as cells.
-/
import Derived.Test.YtbnliibgnnegeagDoorFlowBase
import Derived.Deep.RegionWith
import Derived.Deep.MidRow
import Derived.Deep.CutRange
namespace Go.Proofs.YtbnliibgnnegeagDoor
open Go.RowKit

/-- Five rows of five, in a block. -/
def Mx (w : World) (b : Nat) (M : Nat → Nat → Bool) : Prop := ∀ i k, i < 5 → k < 5 → w.cell? ⟨b, i * 5 + k, none⟩ = some (.bool (M i k)) ∧ w.frozen? ⟨b, i * 5 + k, none⟩ = false
def mset (M : Nat → Nat → Bool) (i k : Nat) : Nat → Nat → Bool := fun x y => if x = i ∧ y = k then true else M x y
theorem mset_at (M : Nat → Nat → Bool) (i k : Nat) : mset M i k i k = true := by simp [mset]
theorem mset_off (M : Nat → Nat → Bool) {i k x y : Nat} (h : ¬ (x = i ∧ y = k)) : mset M i k x y = M x y := by simp [mset, h]
theorem Mx.set {w : World} {b : Nat} {M : Nat → Nat → Bool} (h : Mx w b M) {i k : Nat} (hi : i < 5) (hk : k < 5) : Mx (w.setCell ⟨b, i * 5 + k, none⟩ (.bool true)) b (mset M i k) := fun x y hx hy => by
  obtain ⟨h1, h2⟩ := h x y hx hy
  obtain ⟨h3, h4⟩ := h i k hi hk
  refine ⟨?_, (World.frozen?_setCell _ _ _ _).trans h2⟩
  by_cases he : x = i ∧ y = k
  · obtain ⟨rfl, rfl⟩ := he
    rw [mset_at]
    simp [go_sem, h1]
  · rw [mset_off _ he]
    rw [World.cell?_setCell_other _ _ _ _ (by intro e; injection e with _ e2; omega)]
    exact h1
theorem Mx.below {w w' : World} {b B : Nat} {M : Nat → Nat → Bool} (h : Mx w b M) (hb : Below B w w') (hB : b < B) : Mx w' b M := fun x y hx hy =>
  ⟨(hb.cell (p := ⟨b, _, none⟩) hB).trans (h x y hx hy).1, (hb.frozen (p := ⟨b, _, none⟩) hB).trans (h x y hx hy).2⟩
theorem Mx.apart {w : World} {b c : Nat} {M : Nat → Nat → Bool} (h : Mx w b M) (hne : b ≠ c) (i : Nat) (u : Value) : Mx (w.setCell ⟨c, i, none⟩ u) b M := fun x y hx hy =>
  ⟨(World.cell?_of_block (w := w) (a := ⟨b, x * 5 + y, none⟩) (Below.heap_setCell _ _ _ _ hne)).trans (h x y hx hy).1, (World.frozen?_setCell _ _ _ _).trans (h x y hx hy).2⟩
theorem Mx.drew {w : World} {b : Nat} {M : Nat → Nat → Bool} (h : Mx w b M) : Mx w.drew b M := h
theorem take_snoc4 {l : List W4} {k : Nat} {x : W4} (h : l[k]? = some x) : l.take (k + 1) = l.take k ++ [x] := by
  obtain ⟨hk, rfl⟩ := List.getElem?_eq_some_iff.1 h
  rw [List.take_succ_eq_append_getElem hk]
theorem Mx.congr {w : World} {b : Nat} {M N : Nat → Nat → Bool} (h : Mx w b M) (he : ∀ x y, x < 5 → y < 5 → M x y = N x y) : Mx w b N := fun x y hx hy => by rw [← he x y hx hy]; exact h x y hx hy
/-- Within one m: between what was and what will be. -/
def Win (e : Nat → Nat → Bool) (m i k : Nat) (M : Nat → Nat → Bool) : Prop := ∀ x y, x < 5 → y < 5 → (pm e m x y = true → M x y = true) ∧ (M x y = true → pm e (m + 1) x y = true) ∧ ((x < i ∨ (x = i ∧ y < k)) → M x y = pm e (m + 1) x y)
theorem Win.start (e : Nat → Nat → Bool) (m : Nat) : Win e m 0 0 (pm e m) := fun x y _ _ => ⟨id, pm_grow, fun h => by omega⟩
theorem Win.line {e : Nat → Nat → Bool} {m i : Nat} {M : Nat → Nat → Bool} (h : Win e m i 5 M) : Win e m (i + 1) 0 M := fun x y hx hy => ⟨(h x y hx hy).1, (h x y hx hy).2.1, fun hh => (h x y hx hy).2.2 (by omega)⟩
theorem Win.last {e : Nat → Nat → Bool} {m : Nat} {M : Nat → Nat → Bool} (h : Win e m 5 0 M) : ∀ x y, x < 5 → y < 5 → M x y = pm e (m + 1) x y := fun x y hx hy => (h x y hx hy).2.2 (by omega)
theorem Win.yes {e : Nat → Nat → Bool} {m i k : Nat} {M : Nat → Nat → Bool} (h : Win e m i k M) (hm : m < 5) (hi : i < 5) (hk : k < 5) (h1 : M i m = true) (h2 : M m k = true) : Win e m i (k + 1) (mset M i k) := by
  have hv : pm e (m + 1) i k = true := pm_via (pm_col ((h i m hi hm).2.1 h1)) (pm_row ((h m k hm hk).2.1 h2))
  intro x y hx hy
  by_cases he : x = i ∧ y = k
  · obtain ⟨rfl, rfl⟩ := he
    rw [mset_at]
    exact ⟨fun _ => rfl, fun _ => hv, fun _ => hv.symm⟩
  · rw [mset_off _ he]
    exact ⟨(h x y hx hy).1, (h x y hx hy).2.1, fun hh => (h x y hx hy).2.2 (by omega)⟩
theorem Win.no {e : Nat → Nat → Bool} {m i k : Nat} {M : Nat → Nat → Bool} (h : Win e m i k M) (hm : m < 5) (hi : i < 5) (hk : k < 5) (h0 : ¬ (M i m = true ∧ M m k = true)) : Win e m i (k + 1) M := by
  intro x y hx hy
  refine ⟨(h x y hx hy).1, (h x y hx hy).2.1, fun hh => ?_⟩
  by_cases he : x = i ∧ y = k
  · obtain ⟨rfl, rfl⟩ := he
    cases hM : M x y with
    | true => exact ((h x y hx hy).2.1 hM).symm
    | false =>
      cases hp : pm e (m + 1) x y with
      | false => rfl
      | true =>
        rcases pm_cases hp with a | ⟨a, b⟩
        · rw [(h x y hx hy).1 a] at hM; cases hM
        · exact absurd ⟨(h x m hx hm).1 a, (h m y hm hy).1 b⟩ h0
  · exact (h x y hx hy).2.2 (by omega)
theorem edge_snoc (l : List W4) (f t k d : Int) (i j : Nat) (hi : f = (i : Int)) (hj : t = (j : Int)) : ∀ x y, mset (edge l) i j x y = edge (l ++ [(f, t, k, d)]) x y := fun x y => by
  subst hi
  subst hj
  by_cases he : x = i ∧ y = j
  · obtain ⟨rfl, rfl⟩ := he
    rw [mset_at, edge_wire (x := ((x : Int), (y : Int), k, d)) (by simp) rfl rfl]
  · rw [mset_off _ he]
    simp only [edge, List.any_append, List.any_cons, List.any_nil, Bool.or_false]
    have : (decide ((i : Int) = (x : Int)) && decide ((j : Int) = (y : Int))) = false := by
      rw [Bool.and_eq_false_iff]
      by_cases h1 : x = i
      · right; simp; omega
      · left; simp; omega
    rw [this]
    simp
/-- The diagonal, so far. -/
def dg (n : Nat) : Nat → Nat → Bool := fun x y => decide (x = y) && decide (x < n)
theorem dg_succ (n : Nat) : ∀ x y, mset (dg n) n n x y = dg (n + 1) x y := fun x y => by
  by_cases he : x = n ∧ y = n
  · obtain ⟨rfl, rfl⟩ := he
    rw [mset_at]; simp [dg]
  · rw [mset_off _ he]
    unfold dg
    by_cases hxy : x = y
    · have : x ≠ n := fun h => he ⟨h, hxy ▸ h⟩
      simp only [hxy, decide_true, Bool.true_and, decide_eq_decide]
      omega
    · simp [hxy]
theorem dg_five : ∀ x y, x < 5 → y < 5 → dg 5 x y = edge [] x y := fun x y hx _ => by simp [dg, edge, hx]

/-- All ways as cells. -/
def wayCells (l : List W4) : List Value := (List.range 25).map fun j => .bool (way l (j / 5) (j % 5))
theorem way_one (l : List W4) : (wayCells l).toArray.all (·.oneCell') = true := all_oneCell_toArray fun v hv => by
  obtain ⟨x, _, rfl⟩ := List.mem_map.1 hv
  rfl
theorem Mx.range {w : World} {b : Nat} {l : List W4} (h : Mx w b (pm (edge l) 5)) : w.rangeAt b 0 (wayCells l) := fun j v hv => by
  have hj : j < 25 := by
    have := (List.getElem?_eq_some_iff.1 hv).1
    simpa [wayCells] using this
  have hv' : v = .bool (way l (j / 5) (j % 5)) := by
    simp only [wayCells, List.getElem?_map, List.getElem?_range hj, Option.map_some, Option.some.injEq] at hv
    exact hv.symm
  have := (h (j / 5) (j % 5) (by omega) (by omega)).1
  rw [show j / 5 * 5 + j % 5 = j by omega] at this
  rw [Nat.zero_add, hv', this]
  rfl
theorem Mx.there {w : World} {b : Nat} {M : Nat → Nat → Bool} (h : Mx w b M) : w.there b 0 25 := fun j hj => by
  have := h (j / 5) (j % 5) (by omega) (by omega)
  rw [show j / 5 * 5 + j % 5 = j by omega] at this
  rw [Nat.zero_add]
  exact ⟨by rw [this.1]; rfl, this.2⟩
theorem below_cells {B : Nat} {w0 w : World} (h : Below B w0 w) {b : Nat} (hb : B ≤ b) : ∀ (vs : List Value) (o : Nat), Below B w0 (w.setCells b o vs) := fun vs => by
  revert w
  induction vs with
  | nil => intro w h o; exact h
  | cons v r ih => intro w h o; exact ih (h.setCell (p := ⟨b, o, none⟩) hb v) (o + 1)
/-- One result that lies in memory. -/
theorem results_cell {P : Program} {fn : Func} {tmps : Array Value} {w : World} {s : Nat} {t : TypeId} {ad : Addr} {v : Value} (hf : fn.results = #[.cell s t]) (ha : tmps.getD s undef = .pointer (some ad)) (hl : (loadVar t ad).run P w = .ok v w) : (results fn tmps).run P w = .ok v w := by
  unfold results
  rw [hf]
  have e : ∀ f : ResultVar → Sem Value, Array.mapM f #[ResultVar.cell s t] = (do let x ← f (.cell s t); pure #[x]) := fun f => by simp [Array.mapM_eq_mapM_toList]
  rw [e]
  simp only [ha, asAddr, Sem.run_bind, Sem.run_pure, Result.andThen_ok, hl]
  simp
theorem five {P : Nat → Prop} (h0 : P 0) (h1 : P 1) (h2 : P 2) (h3 : P 3) (h4 : P 4) : ∀ x, x < 5 → P x
  | 0, _ => h0
  | 1, _ => h1
  | 2, _ => h2
  | 3, _ => h3
  | 4, _ => h4
  | n + 5, h => by omega
end Go.Proofs.YtbnliibgnnegeagDoor

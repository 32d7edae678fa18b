/-
  The law LevelsUp: its own two wires; which group a room is in, told by a row of five.
-/
import Derived.Test.YtbnliibgnnegeagLevE
import Derived.RangeFuncRecord
namespace Go.Proofs.Ytbnliibgnnegeag
open Go.RowKit

/-- The law's own wires. -/
def toyL : List W4 := [(2, 0, 1, 1), (0, 4, 1, 1)]
theorem toyL_ok : (wschk toyL).2 = 0 := by decide +kernel
theorem toyL_lev : levsE toyL = [1, 0, 0, 0, 2] := by decide +kernel
theorem toyL_wrs (W : World) (n : Nat) (hn : n = W.heap.size) : Wrs (W.alloc (.cells #[.int .i64 2, .int .i64 0, .int .i64 1, .int .i64 1, .int .i64 0, .int .i64 4, .int .i64 1, .int .i64 1] 29)) (.slice (some ⟨n, 0, none⟩) 2 2) toyL := by
  subst hn
  refine Or.inr ⟨_, 0, 2, rfl, Nat.le_refl _, by simp, fun i x hi => ?_⟩
  match i, hi with
  | 0, hi => simp [toyL] at hi; subst hi; simp [go_sem]
  | 1, hi => simp [toyL] at hi; subst hi; simp [go_sem]
  | i + 2, hi => simp [toyL] at hi
/-- A room is in the group of that number. -/
def Idx (l : List W4) (a m : Nat) : Prop := ∃ b, b < 5 ∧ lead l b = true ∧ both l a b = true ∧ (ringsTo l b).length = m
theorem idx_has (l : List W4) {a : Nat} (ha : a < 5) : ∃ m, Idx l a m ∧ m < (ringsL l).length := by
  obtain ⟨b, h1, h2, h3⟩ := lead_of (l := l) ha
  exact ⟨_, ⟨b, by omega, h3, h2, rfl⟩, ringsTo_lt l (show b < 5 by omega) h3⟩
theorem rings_inj {l : List W4} {a b : Nat} (ha : lead l a = true) (hb : lead l b = true) (h : (ringsTo l a).length = (ringsTo l b).length) : a = b := by
  by_cases h1 : a < b
  · have := ringsTo_lt l h1 ha; omega
  · by_cases h2 : b < a
    · have := ringsTo_lt l h2 hb; omega
    · omega
theorem idx_both {l : List W4} {a b m n : Nat} (ha : a < 5) (hb : b < 5) (h1 : Idx l a m) (h2 : Idx l b n) : m = n ↔ both l a b = true := by
  obtain ⟨c, c1, c2, c3, c4⟩ := h1
  obtain ⟨d, d1, d2, d3, d4⟩ := h2
  constructor
  · intro e
    have : c = d := rings_inj c2 d2 (by omega)
    subst this
    exact both_trans c1 c3 (by rw [both_comm]; exact d3)
  · intro e
    have : c = d := lead_one c1 d1 c2 d2 (both_trans ha (by rw [both_comm]; exact c3) (both_trans hb e d3))
    subst this
    omega
/-- The row, behind i groups. -/
structure OfC (w : World) (l : List W4) (ob i : Nat) (f : Nat → Int) : Prop where
  cells : ∀ a, a < 5 → w.cell? ⟨ob, a, none⟩ = some (.int .i64 (f a))
  fz : ∀ a, a < 5 → w.frozen? ⟨ob, a, none⟩ = false
  low : ∀ a, a < 5 → ∀ m, Idx l a m → m < i → f a = (m : Int)
/-- .. and k rooms of the next one. -/
structure OfK (w : World) (l : List W4) (ob i : Nat) (g : List Int) (k : Nat) (f : Nat → Int) : Prop where
  of : OfC w l ob i f
  put1 : ∀ (j : Nat) z, j < k → g[j]? = some z → f z.toNat = (i : Int)
theorem OfC.start {w : World} {l : List W4} {ob i : Nat} {g : List Int} {f : Nat → Int} (h : OfC w l ob i f) : OfK w l ob i g 0 f := ⟨h, fun j z hj => by omega⟩
theorem OfK.put {w : World} {l : List W4} {ob i k a : Nat} {g : List Int} {f : Nat → Int} (h : OfK w l ob i g k f) (ha : a < 5) (hg : g[k]? = some (a : Int)) (hi : Idx l a i) : OfK (w.setCell ⟨ob, a, none⟩ (.int .i64 i)) l ob i g (k + 1) (fun x => if x = a then (i : Int) else f x) := by
  refine ⟨⟨fun x hx => ?_, fun x hx => (World.frozen?_setCell _ _ _ _).trans (h.of.fz x hx), fun x hx m hm hlt => ?_⟩, fun j z hj hz => ?_⟩
  · by_cases hxa : x = a
    · subst hxa
      have := h.of.cells x hx
      simp [go_sem, this]
    · rw [World.cell?_setCell_other _ _ _ _ (by intro e; injection e with _ e2; omega), if_neg hxa]
      exact h.of.cells x hx
  · by_cases hxa : x = a
    · subst hxa
      have := (idx_both hx hx hm hi).2 (both_self l x)
      omega
    · simp only [hxa, if_false]
      exact h.of.low x hx m hm hlt
  · by_cases hjk : j = k
    · subst hjk
      rw [hg] at hz
      obtain rfl := Option.some.inj hz
      simp
    · show (if z.toNat = a then (i : Int) else f z.toNat) = i
      split
      · rfl
      · exact h.put1 j z (by omega) hz
theorem OfK.last {w : World} {l : List W4} {ob i b : Nat} {f : Nat → Int} (h : OfK w l ob i (grp l b) (grp l b).length f) (hb : b < 5) (hl : lead l b = true) (hi : (ringsTo l b).length = i) : OfC w l ob (i + 1) f := by
  refine ⟨h.of.cells, h.of.fz, fun a ha m hm hlt => ?_⟩
  by_cases hmi : m = i
  · subst hmi
    have hab : both l b a = true := by
      obtain ⟨c, c1, c2, c3, c4⟩ := hm
      have : c = b := rings_inj c2 hl (by omega)
      subst this
      rw [both_comm]; exact c3
    have hmem := (grpTo_mem l b 5 (a : Int)).2 ⟨a, rfl, ha, hab⟩
    obtain ⟨j, hj⟩ := List.mem_iff_getElem?.1 hmem
    have := h.put1 j _ (List.getElem?_eq_some_iff.1 hj).1 hj
    simpa using this
  · exact h.of.low a ha m hm (by omega)
theorem OfC.done {w : World} {l : List W4} {ob : Nat} {f : Nat → Int} (h : OfC w l ob (ringsL l).length f) {a b : Nat} (ha : a < 5) (hb : b < 5) : (f a == f b) = both l a b := by
  obtain ⟨m, hm, hm2⟩ := idx_has l ha
  obtain ⟨n, hn, hn2⟩ := idx_has l hb
  rw [h.low a ha m hm hm2, h.low b hb n hn hn2]
  have := idx_both ha hb hm hn
  cases hbo : both l a b with
  | true => have := this.2 hbo; subst this; simp
  | false =>
    have : ¬ m = n := fun e => by rw [this.1 e] at hbo; cases hbo
    simpa using fun e => this (by omega)
/-- A group's place in the row. -/
theorem ring_at {l : List W4} {i : Nat} {g : List Int} (h : (ringsL l)[i]? = some g) : ∃ b, b < 5 ∧ lead l b = true ∧ g = grp l b ∧ (ringsTo l b).length = i ∧ g[0]? = some (b : Int) ∧ ∀ (k : Nat) z, g[k]? = some z → ∃ a : Nat, z = (a : Int) ∧ a < 5 ∧ both l b a = true ∧ Idx l a i := by
  obtain ⟨b, h1, h2, h3, h4⟩ := ringsTo_at l 5 i g h
  refine ⟨b, h1, h2, h3, h4, ?_, fun k z hz => ?_⟩
  · rw [h3]
    unfold lead at h2
    simpa using h2
  · rw [h3] at hz
    obtain ⟨a, e1, e2, e3⟩ := (grpTo_mem l b 5 z).1 (List.mem_of_getElem? hz)
    exact ⟨a, e1, e2, e3, b, h1, h2, by rw [both_comm]; exact e3, h4⟩
theorem lvs_at {l : List W4} {r : Nat} (hr : r < 5) : (levs l)[r]? = some (lev l r : Int) := by
  unfold levs
  match r, hr with
  | 0, _ => rfl
  | 1, _ => rfl
  | 2, _ => rfl
  | 3, _ => rfl
  | 4, _ => rfl
/-- What is asked of other levels, of a wire. -/
def LvC (l : List W4) (o : Nat → Int) (x : W4) : Prop := o x.1.toNat < o x.2.1.toNat ∨ (both l x.1.toNat x.2.1.toNat = true ∧ o x.1.toNat = o x.2.1.toNat)
end Go.Proofs.Ytbnliibgnnegeag

/-
  Package levels: all that reach each room, rows in a block of five; reach, ring, rise.
-/
import Derived.Test.YtbnliibgnnegeagDoorLvMath
import Derived.Test.YtbnliibgnnegeagDoorFlAhead
import Derived.Test.YtbnliibgnnegeagDoorPgHas
import Derived.Test.YtbnliibgnnegeagDoorInfo3
namespace Go.Proofs.YtbnliibgnnegeagDoor
open Go.RowKit

/-- Five cells of a block. -/
def Sl5 (w : World) (b : Nat) (f : Nat → Value) : Prop := ∀ i, i < 5 → w.cell? ⟨b, i, none⟩ = some (f i) ∧ w.frozen? ⟨b, i, none⟩ = false
theorem Sl5.set {w : World} {b : Nat} {f : Nat → Value} (h : Sl5 w b f) {k : Nat} (hk : k < 5) (v : Value) : Sl5 (w.setCell ⟨b, k, none⟩ v) b (fun i => if i = k then v else f i) := fun i hi => by
  obtain ⟨h1, h2⟩ := h i hi
  obtain ⟨h3, _⟩ := h k hk
  refine ⟨?_, (World.frozen?_setCell _ _ _ _).trans h2⟩
  by_cases he : i = k
  · subst he
    simp [go_sem, h1]
  · simp only [if_neg he]
    rw [World.cell?_setCell_other _ _ _ _ (by intro e; injection e with _ e2; omega)]
    exact h1
theorem Sl5.below {w w' : World} {b B : Nat} {f : Nat → Value} (h : Sl5 w b f) (hb : Below B w w') (hB : b < B) : Sl5 w' b f := fun i hi =>
  ⟨(hb.cell (p := ⟨b, _, none⟩) hB).trans (h i hi).1, (hb.frozen (p := ⟨b, _, none⟩) hB).trans (h i hi).2⟩
theorem Sl5.apart {w : World} {b c : Nat} {f : Nat → Value} (h : Sl5 w b f) (hne : b ≠ c) (i : Nat) (u : Value) : Sl5 (w.setCell ⟨c, i, none⟩ u) b f := fun x hx =>
  ⟨(World.cell?_of_block (w := w) (a := ⟨b, x, none⟩) (Below.heap_setCell _ _ _ _ hne)).trans (h x hx).1, (World.frozen?_setCell _ _ _ _).trans (h x hx).2⟩
/-- One row of those that reach a room. -/
def AR (w : World) (l : List W4) (lo i : Nat) (u : Value) : Prop := ∃ g cap, u = .slice (some ⟨g, 0, none⟩) (ahd l i 5).length cap ∧ lo ≤ g ∧ g < w.heap.size ∧ ∀ (j : Nat) x, (ahd l i 5)[j]? = some x → w.cell? ⟨g, j, none⟩ = some (.int .i64 x)
theorem AR.below {w w' : World} {l : List W4} {lo i : Nat} {u : Value} (h : AR w l lo i u) (hb : Below w.heap.size w w') : AR w' l lo i u := by
  obtain ⟨g, cap, h1, h2, h3, h4⟩ := h
  exact ⟨g, cap, h1, h2, Nat.lt_of_lt_of_le h3 hb.size, fun j x hx => (hb.cell (p := ⟨g, j, none⟩) h3).trans (h4 j x hx)⟩
theorem AR.apart {w : World} {l : List W4} {lo i c : Nat} {u : Value} (h : AR w l lo i u) (hc : c < lo) (k : Nat) (v : Value) : AR (w.setCell ⟨c, k, none⟩ v) l lo i u := by
  obtain ⟨g, cap, h1, h2, h3, h4⟩ := h
  exact ⟨g, cap, h1, h2, by simpa using h3, fun j x hx => (World.cell?_of_block (w := w) (a := ⟨g, j, none⟩) (Below.heap_setCell _ _ _ _ (show g ≠ c by omega))).trans (h4 j x hx)⟩
theorem ahd_mem (l : List W4) (b : Nat) : ∀ (k a : Nat), ((a : Int) ∈ ahd l b k) ↔ (a < k ∧ way l a b = true)
  | 0, a => by simp [ahd]
  | k + 1, a => by
    have ih := ahd_mem l b k a
    cases hk : way l k b with
    | true =>
      rw [ahd_yes hk, List.mem_append, ih, List.mem_singleton]
      constructor
      · rintro (h | h)
        · exact ⟨by omega, h.2⟩
        · obtain rfl : a = k := by omega
          exact ⟨by omega, hk⟩
      · rintro ⟨h1, h2⟩
        by_cases e : a = k
        · exact Or.inr (by rw [e])
        · exact Or.inl ⟨by omega, h2⟩
    | false =>
      rw [ahd_no hk, ih]
      constructor
      · rintro ⟨h1, h2⟩
        exact ⟨by omega, h2⟩
      · rintro ⟨h1, h2⟩
        refine ⟨?_, h2⟩
        by_cases e : a = k
        · rw [e, hk] at h2
          cases h2
        · omega
theorem ahd_room (l : List W4) (b : Nat) : ∀ (k : Nat) (z : Int), z ∈ ahd l b k → 0 ≤ z ∧ z < k
  | 0, z, h => by simp [ahd] at h
  | k + 1, z, h => by
    rw [ahd] at h
    split at h
    · rcases List.mem_append.1 h with h | h
      · have := ahd_room l b k z h
        omega
      · rw [List.mem_singleton] at h
        omega
    · have := ahd_room l b k z h
      omega
theorem ahd_has (l : List W4) {a b : Nat} (ha : a < 5) : (ahd l b 5).contains (a : Int) = way l a b := by
  rw [Bool.eq_iff_iff, List.contains_iff_mem, ahd_mem]
  exact ⟨fun h => h.2, fun h => ⟨ha, h⟩⟩
theorem ahd_pos (l : List W4) {b : Nat} (hb : b < 5) : 0 < (ahd l b 5).length := List.length_pos_of_mem ((ahd_mem l b 5 b).2 ⟨hb, way_self l b⟩)
theorem ahd_grp (l : List W4) (r : Nat) : ∀ k, grpTo l r k = (ahd l r k).filter (fun z => way l r z.toNat)
  | 0 => rfl
  | k + 1 => by
    have ih := ahd_grp l r k
    rw [grpTo, ahd]
    unfold both
    cases h1 : way l r k <;> cases h2 : way l k r <;> simp [ih, h1]
/-- All rows, in a block. -/
def Ahs (w : World) (l : List W4) (kb : Nat) : Prop := kb < w.heap.size ∧ ∀ i, i < 5 → ∃ u, w.cell? ⟨kb, i, none⟩ = some u ∧ AR w l 0 i u
theorem Ahs.below {w w' : World} {l : List W4} {kb : Nat} (h : Ahs w l kb) (hb : Below w.heap.size w w') : Ahs w' l kb := ⟨Nat.lt_of_lt_of_le h.1 hb.size, fun i hi => by
  obtain ⟨u, h1, h2⟩ := h.2 i hi
  exact ⟨u, (hb.cell (p := ⟨kb, i, none⟩) h.1).trans h1, h2.below hb⟩⟩
set_option maxRecDepth 100000 in
set_option maxHeartbeats 2000000 in
theorem lvreach_any (l : List W4) (kb a b : Nat) (w : World) (h : Ahs w l kb) (ha : a < 5) (hb : b < 5) :
    Calls Tryd.prog 22 #[.pointer (some ⟨kb, 0, none⟩), .int .i64 a, .int .i64 b] w fun e w' => e = .returned (.bool (way l a b)) ∧ w' = w := by
  obtain ⟨u, c0, g, cap, rfl, _, hg, hc⟩ := h.2 b hb
  have hlen := ahd_len l b 5
  have hq := contains_ints (ahd l b 5) (a : Int) g 0 cap w (by omega) (fun i y hy => by rw [Nat.zero_add]; exact hc i y hy)
  rw [ahd_has l ha] at hq
  have hbi : (b : Int) < 5 := by omega
  clear h hc hlen
  go_enter Tryd.func22, Tryd.ntmps22
  go_wp2_with (go_at_call 27; refine hq.mono ?_; rintro e w1 ⟨rfl, rfl⟩; clear hq)
  go_ret
  exact ⟨rfl, rfl⟩
set_option maxRecDepth 100000 in
set_option maxHeartbeats 2000000 in
theorem lvrise_any (l : List W4) (kb : Nat) (f t : Nat) (k d : Int) (w : World) (h : Ahs w l kb) (hf : f < 5) (ht : t < 5) :
    Calls Tryd.prog 19 #[.pointer (some ⟨kb, 0, none⟩), .agg #[.int .i64 f, .int .i64 t, .int .i64 k, .int .i64 d]] w fun e w' => e = .returned (.int .i64 (rise l ((f : Int), (t : Int), k, d) : Nat)) ∧ Below w.heap.size w w' := by
  have hB : Below w.heap.size w (w.alloc (.cells #[.int .i64 f, .int .i64 t, .int .i64 k, .int .i64 d] 47)) := (Below.refl _ _).alloc (Nat.le_refl _) _
  have hq := lvreach_any l kb t f _ (h.below hB) ht hf
  have hr : rise l ((f : Int), (t : Int), k, d) = if way l t f = true then 0 else 1 := rfl
  rw [hr]
  clear h hr
  cases hw : way l t f with
  | true =>
    rw [hw] at hq
    clear hw
    go_enter Tryd.func19, Tryd.ntmps19
    go_wp2_with (go_at_call 22; refine hq.mono ?_; rintro e w1 ⟨rfl, rfl⟩; clear hq)
    go_ret
    exact ⟨rfl, hB⟩
  | false =>
    rw [hw] at hq
    clear hw
    go_enter Tryd.func19, Tryd.ntmps19
    go_wp2_with (go_at_call 22; refine hq.mono ?_; rintro e w1 ⟨rfl, rfl⟩; clear hq)
    go_ret
    exact ⟨rfl, hB⟩
end Go.Proofs.YtbnliibgnnegeagDoor

/-
  kept: an item put behind a list, if that has not one more than the most already; at each of its types.
-/
import Derived.Test.YtamnfadngbbaeacGreatDoorBaseA
import Derived.Test.YtamnfadngbbaeacGreatDoorRowA
namespace Go.Proofs.YtamnfadngbbaeacGreatDoor
open Go.RowKit

/-- What kept leaves. -/
def KeptP (base : Nat) (e : TypeId) (size : Nat) (v : Value) (n : Nat) (xs news : List Value) (most : Nat) (w : World) (x : Ending) (w' : World) : Prop :=
  (most < n ∧ x = .returned v ∧ Below w.heap.size w w') ∨ (n ≤ most ∧ ∃ v' wm, x = .returned v' ∧ Below w.heap.size w wm ∧ wm.grownBy w' v.ownBlock ∧ w'.ownsRow base e size v' (n + 1) (xs ++ news) ∧ ∀ k, v'.ownBlock = some k → v.ownBlock = some k ∨ wm.heap.size ≤ k)
theorem own_sl {w : World} {base : Nat} {e : TypeId} {size : Nat} {v : Value} {n : Nat} {xs : List Value} (h : w.ownsRow base e size v n xs) : ∃ ao cap, v = .slice ao n cap := by
  rcases h.2 with ⟨rfl, rfl⟩ | ⟨g, cap, cur, rfl, _⟩
  · exact ⟨_, _, rfl⟩
  · exact ⟨_, _, rfl⟩
theorem new3 (w : World) (x y z : Value) (t : TypeId) : ∀ j u, [x, y, z][j]? = some u → (w.alloc (.cells #[x, y, z] t)).cell? ((⟨w.heap.size, 0, none⟩ : Addr).add j) = some u := by
  intro j u hj
  match j, hj with
  | 0, hj => simp at hj; subst hj; simp [Addr.add]
  | 1, hj => simp at hj; subst hj; simp [Addr.add]
  | 2, hj => simp at hj; subst hj; simp [Addr.add]
theorem new4 (w : World) (x y z t' : Value) (t : TypeId) : ∀ j u, [x, y, z, t'][j]? = some u → (w.alloc (.cells #[x, y, z, t'] t)).cell? ((⟨w.heap.size, 0, none⟩ : Addr).add j) = some u := by
  intro j u hj
  match j, hj with
  | 0, hj => simp at hj; subst hj; simp [Addr.add]
  | 1, hj => simp at hj; subst hj; simp [Addr.add]
  | 2, hj => simp at hj; subst hj; simp [Addr.add]
  | 3, hj => simp at hj; subst hj; simp [Addr.add]
theorem new3b (w : World) (o : Obj) (x y z : Value) (t : TypeId) : ∀ j u, [x, y, z][j]? = some u → ((w.alloc o).alloc (.cells #[x, y, z] t)).cell? ((⟨w.heap.size + 1, 0, none⟩ : Addr).add j) = some u := by
  have := new3 (w.alloc o) x y z t
  rwa [World.size_alloc] at this
theorem new4b (w : World) (o : Obj) (x y z t' : Value) (t : TypeId) : ∀ j u, [x, y, z, t'][j]? = some u → ((w.alloc o).alloc (.cells #[x, y, z, t'] t)).cell? ((⟨w.heap.size + 1, 0, none⟩ : Addr).add j) = some u := by
  have := new4 (w.alloc o) x y z t' t
  rwa [World.size_alloc] at this

set_option maxRecDepth 100000 in
set_option maxHeartbeats 2000000 in
theorem kept_span (base : Nat) (v : Value) (n : Nat) (xs : List Value) (a b c : Int) (w : World) (hown : w.ownsRow base 45 3 v n xs) (hb : base ≤ w.heap.size) (hn : n ≤ 100) :
    Calls Tryz.prog 86 #[v, .agg #[.int .i64 a, .int .i64 b, .int .i64 c], .int .i64 12] w (KeptP base 45 3 v n xs [.int .i64 a, .int .i64 b, .int .i64 c] 12 w) := by
  obtain ⟨ao, cap, rfl⟩ := own_sl hown
  obtain ⟨ii, hi, hz0, hz1, hz2⟩ := info_parts infoSp
  by_cases hm : 12 < n
  · have hmi : (12 : Int) < (n : Int) := by omega
    go_enter Tryz.func86, Tryz.ntmps86
    go_wp2
    go_ret
    exact Or.inl ⟨hm, rfl, (Below.refl _ _).alloc (Nat.le_refl _) _⟩
  · have hmi : decide ((12 : Int) < (n : Int)) = false := decide_eq_false (by omega)
    have hmn : decide (12 < n) = false := decide_eq_false hm
    go_enter Tryz.func86, Tryz.ntmps86
    go_wp2_with (at_builtin; refine wpList_append_at _ rfl _ _ 23 rfl base 45 ii (.agg #[.int .i64 0, .int .i64 0, .int .i64 0]) 3 24 Tryz.underlying23 hi hz0 hz1 hz2 rfl (by decide) _ _ _ rfl ((hown.alloc _).alloc _) ⟨w.heap.size + 1, 0, none⟩ 1 1 [.int .i64 a, .int .i64 b, .int .i64 c] rfl rfl ?c1A ?c2A ?c3A ?c4A ?c5A ?_)
    case c1A => exact new3b _ _ _ _ _ _
    case c2A => intro u hu; simp at hu; first | (rcases hu with rfl | rfl | rfl | rfl <;> rfl) | (rcases hu with rfl | rfl | rfl <;> rfl) | (subst hu; first | rfl | assumption)
    case c3A => unfold maxLen; omega
    case c4A => omega
    case c5A => simp; omega
    intro v' w1 hown' hgrow hat
    have hm : ∃ wm : World, wm.grownBy w1 (Value.slice ao n cap).ownBlock ∧ Below w.heap.size w wm ∧ ∀ k, v'.ownBlock = some k → (Value.slice ao n cap).ownBlock = some k ∨ wm.heap.size ≤ k := ⟨_, hgrow, ((Below.refl _ w).alloc (Nat.le_refl _) _).alloc (by simp) _, fun k hk => by simpa using hat k hk⟩
    obtain ⟨wm, g1, g2, g3⟩ := hm
    clear hgrow hat
    go_wp2
    go_ret
    exact Or.inr ⟨by omega, v', wm, rfl, g2, g1, hown', g3⟩
set_option maxRecDepth 100000 in
set_option maxHeartbeats 2000000 in
theorem kept_wire (base : Nat) (v : Value) (n : Nat) (xs : List Value) (a b c d : Int) (w : World) (hown : w.ownsRow base 47 4 v n xs) (hb : base ≤ w.heap.size) (hn : n ≤ 100) :
    Calls Tryz.prog 87 #[v, .agg #[.int .i64 a, .int .i64 b, .int .i64 c, .int .i64 d], .int .i64 12] w (KeptP base 47 4 v n xs [.int .i64 a, .int .i64 b, .int .i64 c, .int .i64 d] 12 w) := by
  obtain ⟨ao, cap, rfl⟩ := own_sl hown
  obtain ⟨ii, hi, hz0, hz1, hz2⟩ := info_parts infoWr
  by_cases hm : 12 < n
  · have hmi : (12 : Int) < (n : Int) := by omega
    go_enter Tryz.func87, Tryz.ntmps87
    go_wp2
    go_ret
    exact Or.inl ⟨hm, rfl, (Below.refl _ _).alloc (Nat.le_refl _) _⟩
  · have hmi : decide ((12 : Int) < (n : Int)) = false := decide_eq_false (by omega)
    have hmn : decide (12 < n) = false := decide_eq_false hm
    go_enter Tryz.func87, Tryz.ntmps87
    go_wp2_with (at_builtin; refine wpList_append_at _ rfl _ _ 24 rfl base 47 ii (.agg #[.int .i64 0, .int .i64 0, .int .i64 0, .int .i64 0]) 4 32 Tryz.underlying24 hi hz0 hz1 hz2 rfl (by decide) _ _ _ rfl ((hown.alloc _).alloc _) ⟨w.heap.size + 1, 0, none⟩ 1 1 [.int .i64 a, .int .i64 b, .int .i64 c, .int .i64 d] rfl rfl ?c1A ?c2A ?c3A ?c4A ?c5A ?_)
    case c1A => exact new4b _ _ _ _ _ _ _
    case c2A => intro u hu; simp at hu; first | (rcases hu with rfl | rfl | rfl | rfl <;> rfl) | (rcases hu with rfl | rfl | rfl <;> rfl) | (subst hu; first | rfl | assumption)
    case c3A => unfold maxLen; omega
    case c4A => omega
    case c5A => simp; omega
    intro v' w1 hown' hgrow hat
    have hm : ∃ wm : World, wm.grownBy w1 (Value.slice ao n cap).ownBlock ∧ Below w.heap.size w wm ∧ ∀ k, v'.ownBlock = some k → (Value.slice ao n cap).ownBlock = some k ∨ wm.heap.size ≤ k := ⟨_, hgrow, ((Below.refl _ w).alloc (Nat.le_refl _) _).alloc (by simp) _, fun k hk => by simpa using hat k hk⟩
    obtain ⟨wm, g1, g2, g3⟩ := hm
    clear hgrow hat
    go_wp2
    go_ret
    exact Or.inr ⟨by omega, v', wm, rfl, g2, g1, hown', g3⟩
set_option maxRecDepth 100000 in
set_option maxHeartbeats 2000000 in
theorem kept_op (base : Nat) (v : Value) (n : Nat) (xs : List Value) (a b c : Int) (w : World) (hown : w.ownsRow base 73 3 v n xs) (hb : base ≤ w.heap.size) (hn : n ≤ 100) :
    Calls Tryz.prog 85 #[v, .agg #[.int .i64 a, .int .i64 b, .int .i64 c], .int .i64 20] w (KeptP base 73 3 v n xs [.int .i64 a, .int .i64 b, .int .i64 c] 20 w) := by
  obtain ⟨ao, cap, rfl⟩ := own_sl hown
  obtain ⟨ii, hi, hz0, hz1, hz2⟩ := info_parts infoOpE
  by_cases hm : 20 < n
  · have hmi : (20 : Int) < (n : Int) := by omega
    go_enter Tryz.func85, Tryz.ntmps85
    go_wp2
    go_ret
    exact Or.inl ⟨hm, rfl, (Below.refl _ _).alloc (Nat.le_refl _) _⟩
  · have hmi : decide ((20 : Int) < (n : Int)) = false := decide_eq_false (by omega)
    have hmn : decide (20 < n) = false := decide_eq_false hm
    go_enter Tryz.func85, Tryz.ntmps85
    go_wp2_with (at_builtin; refine wpList_append_at _ rfl _ _ 49 rfl base 73 ii (.agg #[.int .i64 0, .int .i64 0, .int .i64 0]) 3 24 Tryz.underlying49 hi hz0 hz1 hz2 rfl (by decide) _ _ _ rfl ((hown.alloc _).alloc _) ⟨w.heap.size + 1, 0, none⟩ 1 1 [.int .i64 a, .int .i64 b, .int .i64 c] rfl rfl ?c1A ?c2A ?c3A ?c4A ?c5A ?_)
    case c1A => exact new3b _ _ _ _ _ _
    case c2A => intro u hu; simp at hu; first | (rcases hu with rfl | rfl | rfl | rfl <;> rfl) | (rcases hu with rfl | rfl | rfl <;> rfl) | (subst hu; first | rfl | assumption)
    case c3A => unfold maxLen; omega
    case c4A => omega
    case c5A => simp; omega
    intro v' w1 hown' hgrow hat
    have hm : ∃ wm : World, wm.grownBy w1 (Value.slice ao n cap).ownBlock ∧ Below w.heap.size w wm ∧ ∀ k, v'.ownBlock = some k → (Value.slice ao n cap).ownBlock = some k ∨ wm.heap.size ≤ k := ⟨_, hgrow, ((Below.refl _ w).alloc (Nat.le_refl _) _).alloc (by simp) _, fun k hk => by simpa using hat k hk⟩
    obtain ⟨wm, g1, g2, g3⟩ := hm
    clear hgrow hat
    go_wp2
    go_ret
    exact Or.inr ⟨by omega, v', wm, rfl, g2, g1, hown', g3⟩
set_option maxRecDepth 100000 in
set_option maxHeartbeats 2000000 in
theorem kept_room (base : Nat) (v : Value) (n : Nat) (xs : List Value)  (w : World) (hown : w.ownsRow base 49 1 v n xs) (hb : base ≤ w.heap.size) (hn : n ≤ 100) :
    Calls Tryz.prog 88 #[v, .slice none 0 0, .int .i64 5] w (KeptP base 49 1 v n xs [.slice none 0 0] 5 w) := by
  obtain ⟨ao, cap, rfl⟩ := own_sl hown
  obtain ⟨ii, hi, hz0, hz1, hz2⟩ := info_parts infoOps
  by_cases hm : 5 < n
  · have hmi : (5 : Int) < (n : Int) := by omega
    go_enter Tryz.func88, Tryz.ntmps88
    go_wp2
    go_ret
    exact Or.inl ⟨hm, rfl, Below.refl _ _⟩
  · have hmi : decide ((5 : Int) < (n : Int)) = false := decide_eq_false (by omega)
    have hmn : decide (5 < n) = false := decide_eq_false hm
    go_enter Tryz.func88, Tryz.ntmps88
    go_wp2_with (at_builtin; refine wpList_append_at _ rfl _ _ 22 rfl base 49 ii (.slice none 0 0) 1 24 Tryz.underlying22 hi hz0 hz1 hz2 rfl (by decide) _ _ _ rfl (hown.alloc _) ⟨w.heap.size, 0, none⟩ 1 1 [.slice none 0 0] rfl rfl ?c1A ?c2A ?c3A ?c4A ?c5A ?_)
    case c1A => exact one_new _ _ _
    case c2A => intro u hu; simp at hu; first | (rcases hu with rfl | rfl | rfl | rfl <;> rfl) | (rcases hu with rfl | rfl | rfl <;> rfl) | (subst hu; first | rfl | assumption)
    case c3A => unfold maxLen; omega
    case c4A => omega
    case c5A => simp; omega
    intro v' w1 hown' hgrow hat
    have hm : ∃ wm : World, wm.grownBy w1 (Value.slice ao n cap).ownBlock ∧ Below w.heap.size w wm ∧ ∀ k, v'.ownBlock = some k → (Value.slice ao n cap).ownBlock = some k ∨ wm.heap.size ≤ k := ⟨_, hgrow, (Below.refl _ w).alloc (Nat.le_refl _) _, fun k hk => by simpa using hat k hk⟩
    obtain ⟨wm, g1, g2, g3⟩ := hm
    clear hgrow hat
    go_wp2
    go_ret
    exact Or.inr ⟨by omega, v', wm, rfl, g2, g1, hown', g3⟩
end Go.Proofs.YtamnfadngbbaeacGreatDoor

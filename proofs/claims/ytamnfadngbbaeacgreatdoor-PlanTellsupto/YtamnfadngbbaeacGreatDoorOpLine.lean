/-
  code.line: the line of an op that fits.
-/
import Derived.Test.YtamnfadngbbaeacGreatDoorLine
import Derived.Test.YtamnfadngbbaeacGreatDoorCodeA
namespace Go.Proofs.YtamnfadngbbaeacGreatDoor
open Go.RowKit

/-- A number that a line says, where its bound is not 1. -/
def pk (p x : Int) : List Int := if p = 1 then [] else [x]
theorem pk_one (x : Int) : pk 1 x = [] := rfl
theorem pk_not {p : Int} (h : p ≠ 1) (x : Int) : pk p x = [x] := by simp [pk, h]
theorem pk_le (p x : Int) : (pk p x).length ≤ 1 := by unfold pk; split <;> simp
/-- The numbers said behind k of the two. -/
def kth (p q a b : Int) : Nat → List Int
  | 0 => []
  | 1 => pk p a
  | _ => pk p a ++ pk q b
theorem kth_le (p q a b : Int) (k : Nat) (hk : k ≤ 2) : (kth p q a b k).length ≤ k := by
  have h1 := pk_le p a; have h2 := pk_le q b
  match k, hk with
  | 0, _ => simp [kth]
  | 1, _ => simpa [kth] using h1
  | 2, _ => simp [kth]; omega
theorem kth_mem {p q a b z : Int} (h : z ∈ kth p q a b 2) : z ∈ [a, b] := by
  simp only [kth, pk, List.mem_append] at h
  rcases h with h | h <;> split at h <;> simp_all
set_option maxHeartbeats 4000000 in
set_option maxRecDepth 1000000 in
theorem opline_at (n : Nat) (nm : ByteArray) (a b p q : Int) (h1 : 1 ≤ n) (h2 : n ≤ 11) (w : World) (hp : Pow10 w) (c0 : w.cell? ⟨2, n * 3, none⟩ = some (.string nm)) (c1 : w.cell? ⟨2, n * 3 + 1, none⟩ = some (.int .i64 p)) (c2 : w.cell? ⟨2, n * 3 + 2, none⟩ = some (.int .i64 q))
    (hnm : nm.size ≤ 1000) (hz : ∀ z ∈ [a, b], -9223372036854775808 ≤ z ∧ z ≤ 9223372036854775807) :
    Calls Tryz.prog 50 #[.agg #[.int .i64 n, .int .i64 a, .int .i64 b]] w fun e w' => e = .returned (.string ⟨(lineB nm.data.toList (kth p q a b 2)).toArray⟩) ∧ Below w.heap.size w w' := by
  have hlt := lt_of_cell c0
  have i0 := ix0 a b
  have i1 := ix1 a b
  obtain ⟨ii, hi, hz0, hz1, hz2⟩ := info_parts infoIntC
  go_enter Tryz.func50, Tryz.ntmps50
  go_wp2
  clear c0 c1 c2
  go_loopw [4, 16] (fun v i wr => ∃ k : Nat, k ≤ 2 ∧ i = .int .i64 k ∧ wr.ownsRow (w.heap.size + 2) 3 1 v (kth p q a b k).length ((kth p q a b k).map (Value.int .i64)) ∧
      Below (w.heap.size + 2) ((w.alloc (.cells #[.int .i64 n, .int .i64 a, .int .i64 b] 73)).alloc (.cells #[.string nm, .int .i64 p, .int .i64 q] 138)) wr) (fun _ i _ => 2 - (intOf i).toNat)
  case atStart => exact ⟨0, by omega, rfl, World.ownsRow_nil _ _ _ _, Below.refl _ _⟩
  case round =>
    obtain ⟨k, hk, rfl, hown, hb⟩ := hrel
    have d0 : wr.cell? ⟨w.heap.size + 1, 0, none⟩ = some (.string nm) := (hb.cell (p := ⟨w.heap.size + 1, 0, none⟩) (by simp)).trans (by simp)
    have d1 : wr.cell? ⟨w.heap.size + 1, 1, none⟩ = some (.int .i64 p) := (hb.cell (p := ⟨w.heap.size + 1, 1, none⟩) (by simp)).trans (by simp)
    have d2 : wr.cell? ⟨w.heap.size + 1, 2, none⟩ = some (.int .i64 q) := (hb.cell (p := ⟨w.heap.size + 1, 2, none⟩) (by simp)).trans (by simp)
    have hsz : w.heap.size + 2 ≤ wr.heap.size := by have := hb.size; simp at this; omega
    have hkl := kth_le p q a b k hk
    have hcase : k = 0 ∨ k = 1 ∨ k = 2 := by omega
    rcases hcase with rfl | rfl | rfl
    · by_cases hp1 : p = 1
      · subst hp1
        go_wp2
        go_roundw
        case rel => exact ⟨1, by omega, by go_num, by simpa [kth, pk_one] using hown, hb⟩
        case measure => simp [intOf]
      · have hne : (p == 1) = false := by simpa using hp1
        go_wp2_with (at_builtin; refine wpList_append_own _ rfl _ _ 50 rfl (w.heap.size + 2) 3 ii (.int .i64 0) 1 8 Tryz.underlying50 hi hz0 hz1 hz2 rfl (by decide) _ _ _ rfl (hown.alloc _) ⟨wr.heap.size, 0, none⟩ 1 1 [.int .i64 a] rfl rfl ?c1A ?c2A ?c3A ?c4A ?c5A ?_)
        case c1A =>
          intro j u hj
          match j, hj with
          | 0, hj => simp at hj; subst hj; simp [Addr.add]
        case c2A => intro u hu; simp at hu; subst hu; rfl
        case c3A => unfold maxLen; omega
        case c4A => omega
        case c5A => simp; omega
        intro v' w1 hown' hgrow _
        have hb1 : Below (w.heap.size + 2) ((w.alloc (.cells #[.int .i64 n, .int .i64 a, .int .i64 b] 73)).alloc (.cells #[.string nm, .int .i64 p, .int .i64 q] 138)) w1 :=
          (hb.alloc hsz _).grown hgrow (by simp; omega) (fun j hj => (hown.lt j hj).1)
        have hown1 : w1.ownsRow (w.heap.size + 2) 3 1 v' (kth p q a b 1).length ((kth p q a b 1).map (Value.int .i64)) := by
          have e := (show kth p q a b 1 = [] ++ [a] from pk_not hp1 a)
          rw [e]
          simpa [kth] using hown'
        clear hown' hgrow hown d0 d1 d2
        go_wp2
        go_roundw
        case rel => exact ⟨1, by omega, by go_num, hown1, hb1⟩
        case measure => simp [intOf]
    · by_cases hp1 : q = 1
      · subst hp1
        go_wp2
        go_roundw
        case rel => exact ⟨2, by omega, by go_num, by simpa [kth, pk_one] using hown, hb⟩
        case measure => simp [intOf]
      · have hne : (q == 1) = false := by simpa using hp1
        go_wp2_with (at_builtin; refine wpList_append_own _ rfl _ _ 50 rfl (w.heap.size + 2) 3 ii (.int .i64 0) 1 8 Tryz.underlying50 hi hz0 hz1 hz2 rfl (by decide) _ _ _ rfl (hown.alloc _) ⟨wr.heap.size, 0, none⟩ 1 1 [.int .i64 b] rfl rfl ?c1B ?c2B ?c3B ?c4B ?c5B ?_)
        case c1B =>
          intro j u hj
          match j, hj with
          | 0, hj => simp at hj; subst hj; simp [Addr.add]
        case c2B => intro u hu; simp at hu; subst hu; rfl
        case c3B => unfold maxLen; omega
        case c4B => omega
        case c5B => simp; omega
        intro v' w1 hown' hgrow _
        have hb1 : Below (w.heap.size + 2) ((w.alloc (.cells #[.int .i64 n, .int .i64 a, .int .i64 b] 73)).alloc (.cells #[.string nm, .int .i64 p, .int .i64 q] 138)) w1 :=
          (hb.alloc hsz _).grown hgrow (by simp; omega) (fun j hj => (hown.lt j hj).1)
        have hown1 : w1.ownsRow (w.heap.size + 2) 3 1 v' (kth p q a b 2).length ((kth p q a b 2).map (Value.int .i64)) := by
          have e := (show kth p q a b 2 = kth p q a b 1 ++ [b] from congrArg (pk p a ++ ·) (pk_not hp1 b))
          rw [e]
          simpa [kth] using hown'
        clear hown' hgrow hown d0 d1 d2
        go_wp2
        go_roundw
        case rel => exact ⟨2, by omega, by go_num, hown1, hb1⟩
        case measure => simp [intOf]
    · have hb0 : Below w.heap.size w wr := (((Below.refl _ w).alloc (Nat.le_refl _) _).alloc (by simp) _).trans (hb.mono (by omega))
      have hpr : Pow10 wr := hp.all hb0
      have hv := ints_of_own hown
      have hzz : ∀ z ∈ kth p q a b 2, -9223372036854775808 ≤ z ∧ z ≤ 9223372036854775807 := fun z hzm => hz z (kth_mem hzm)
      go_wp2_with (go_at_call 49; refine (line_any nm _ _ _ hpr hv hzz (by omega)).mono ?_)
      rintro e w2 ⟨rfl, b2⟩
      go_wp2
      go_ret
      exact ⟨rfl, hb0.trans (b2.mono (by omega))⟩

theorem forms_name {w : World} (hf : Forms w) (n : Nat) (h1 : 1 ≤ n) (h2 : n ≤ 11) : w.cell? ⟨2, n * 3, none⟩ = some (.string ⟨(nameB n).toArray⟩) := by
  have h : n = 1 ∨ n = 2 ∨ n = 3 ∨ n = 4 ∨ n = 5 ∨ n = 6 ∨ n = 7 ∨ n = 8 ∨ n = 9 ∨ n = 10 ∨ n = 11 := by omega
  rcases h with rfl | rfl | rfl | rfl | rfl | rfl | rfl | rfl | rfl | rfl | rfl <;> exact hf _ _ rfl
theorem kth_nums (n : Nat) (a b : Int) (h1 : 1 ≤ n) (h2 : n ≤ 11) : kth (pA n) (pB n) a b 2 = numsB ((n : Int), a, b) := by
  have h : n = 1 ∨ n = 2 ∨ n = 3 ∨ n = 4 ∨ n = 5 ∨ n = 6 ∨ n = 7 ∨ n = 8 ∨ n = 9 ∨ n = 10 ∨ n = 11 := by omega
  rcases h with rfl | rfl | rfl | rfl | rfl | rfl | rfl | rfl | rfl | rfl | rfl <;> rfl

theorem opline_any (o : O3) (w : World) (ht : Tabs w) (h1 : 1 ≤ o.1) (h2 : o.1 ≤ 11) (ha : 0 ≤ o.2.1 ∧ o.2.1 ≤ 5) (hb : 0 ≤ o.2.2 ∧ o.2.2 ≤ 999) :
    Calls Tryz.prog 50 #[.agg #[.int .i64 o.1, .int .i64 o.2.1, .int .i64 o.2.2]] w fun e w' => e = .returned (.string ⟨(opB o).toArray⟩) ∧ Below w.heap.size w w' := by
  obtain ⟨n, a, b⟩ := o
  obtain ⟨m, rfl⟩ : ∃ m : Nat, n = m := ⟨n.toNat, by simp at h1; omega⟩
  simp only at h1 h2 ha hb ⊢
  have hc := forms_at ht.forms m (by omega) (by omega)
  have := opline_at m ⟨(nameB m).toArray⟩ a b _ _ (by omega) (by omega) w ht.pow (forms_name ht.forms m (by omega) (by omega)) hc.1 hc.2 (by rw [ba_size]; have := name_le m; omega) (by intro z hz; simp at hz; omega)
  rw [kth_nums m a b (by omega) (by omega)] at this
  exact this
end Go.Proofs.YtamnfadngbbaeacGreatDoor

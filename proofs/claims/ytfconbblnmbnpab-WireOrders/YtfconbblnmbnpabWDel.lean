/-
  slices.Delete of the first of a row that the call owns.
-/
import Derived.Test.YtfconbblnmbnpabWTake
namespace Go.Proofs.Ytfconbblnmbnpab
open Go.RowKit

set_option maxRecDepth 1000000 in
set_option maxHeartbeats 4000000 in
theorem del_walk (g cap : Nat) (x : Int) (ys : List Int) (w : World) (hcap : ys.length + 1 ≤ cap) (hm : cap ≤ 9223372036854775807) (hc : ∀ i x', (ints (x :: ys))[i]? = some x' → w.cell? ⟨g, i, none⟩ = some x') (hs : ∀ i, i < cap → (w.cell? ⟨g, i, none⟩).isSome = true) (hf : ∀ i, w.frozen? ⟨g, i, none⟩ = false) :
    Calls Try.prog 21 #[.slice (some ⟨g, 0, none⟩) (ys.length + 1) cap, .int .i64 0, .int .i64 1] w fun e w' => e = .returned (.slice (some ⟨g, 0, none⟩) ys.length cap) ∧ w' = (w.drew.setCells g 0 (ints ys)).setCells g ys.length [.int .i64 0] := by
  obtain ⟨ii, hi, hz0, hz1, hz2⟩ := info_parts infoInt
  obtain ⟨A, hA, hsrc⟩ : ∃ A : Addr, (if cap = 1 then some (⟨g, 0, none⟩ : Addr) else some ⟨g, 1, none⟩) = some A ∧ Hid (∀ t u, (ints ys)[t]? = some u → w.drew.cell? (A.add t) = some u) := by
    by_cases h : cap = 1
    · refine ⟨⟨g, 0, none⟩, by simp [h], fun t u hu => ?_⟩
      have h0 : ys = [] := List.eq_nil_of_length_eq_zero (by omega)
      subst h0
      simp [ints] at hu
    · refine ⟨⟨g, 1, none⟩, by simp [h], fun t u hu => ?_⟩
      rw [Addr.add_lit, Nat.add_comm]
      exact hc (t + 1) u (by simpa [ints] using hu)
  have s1 : Hid ((ints ys).length = ys.length * 1) := by show _ = _; rw [ints_len, Nat.mul_one]
  have s2 : Hid (∀ u ∈ ints ys, u.oneCell' = true) := by
    intro u hu
    obtain ⟨x, _, rfl⟩ := List.mem_map.1 hu
    rfl
  have s3 : Hid (∀ t, t < (ints ys).length → (w.drew.cell? ⟨g, 0 + 0 * 1 + t, none⟩).isSome = true ∧ w.drew.frozen? ⟨g, 0 + 0 * 1 + t, none⟩ = false) := by
    intro t ht
    rw [ints_len] at ht
    exact ⟨by rw [show 0 + 0 * 1 + t = t by omega]; exact hs t (by omega), hf _⟩
  obtain ⟨W1, hW1⟩ : ∃ W1, W1 = w.drew.setCells g (0 + 0 * 1) (ints ys) := ⟨_, rfl⟩
  have hcl : ∀ ty, (Builtin.clear_ #[35] ty #[.slice (some ⟨g, ys.length, none⟩) 1 (cap - ys.length)]).run Try.prog W1 = .ok (.tuple #[]) (W1.setCells g ys.length [.int .i64 0]) := by
    intro ty
    have hce : W1.cell? ⟨g, ys.length, none⟩ = w.cell? ⟨g, ys.length, none⟩ := by
      rw [hW1, World.cell?_setCells_out g _ _ _ _ (fun _ _ => by right; show 0 + 0 * 1 + (ints ys).length ≤ ys.length; rw [ints_len]; omega)]
      rfl
    have hfe : W1.frozen? ⟨g, ys.length, none⟩ = w.frozen? ⟨g, ys.length, none⟩ := by
      rw [hW1, World.frozen?_setCells]
      rfl
    exact Lib.run_clear_slice W1 35 3 ty (.int .i64 0) Try.underlying35 Try.zeroValue3 rfl rfl g ys.length 1 (cap - ys.length) (by omega)
      (fun j hj => by obtain rfl : j = 0 := by omega
                      rw [Nat.add_zero, hce]; exact hs _ (by omega))
      (fun j hj => by obtain rfl : j = 0 := by omega
                      rw [Nat.add_zero, hfe]; exact hf _)
  have hW : Hid (W1 = w.drew.setCells g (0 + 0 * 1) (ints ys)) := hW1
  clear hW1
  have h1c : 1 ≤ cap := by omega
  have h1i : (1 : Int) ≤ (ys.length : Int) + 1 := by omega
  clear hc hs hf
  go_enter Try.func21, Try.ntmps21
  go_wp2_with fail
  go_region_law (refine step_append_room rfl (.tmp 22) (.tmp 25) 35 rfl 3 ii 1 Try.underlying35 hi hz1 g 0 0 cap (by simp [Act.eval, Act.put]) A ys.length (cap - 1) (ints ys) (by simp [Act.eval, Act.put]) s1.out hsrc.out s2.out (by omega) s3.out ?_; rw [← hW.out])
  all_goals go_wp2
  all_goals go_ret
  all_goals exact ⟨rfl, by rw [hW.out]⟩

theorem cells_heap {g : Nat} {e : TypeId} : ∀ (vs : List Value) (o : Nat) (w : World) (cur : Array Value), w.heap[g]? = some (.cells cur e (0, 0)) → ∃ cur', (w.setCells g o vs).heap[g]? = some (.cells cur' e (0, 0)) ∧ cur'.size = cur.size
  | [], _, _, cur, h => ⟨cur, h, rfl⟩
  | v :: r, o, w, cur, h => by
    obtain ⟨c, h1, h2⟩ := cells_heap r (o + 1) (w.setCell ⟨g, o, none⟩ v) _ (heap_setCell_same w g o cur e v h)
    exact ⟨c, h1, by simpa using h2⟩
theorem cells_other {g k : Nat} (hk : k ≠ g) : ∀ (vs : List Value) (o : Nat) (w : World), (w.setCells g o vs).heap[k]? = w.heap[k]?
  | [], _, _ => rfl
  | v :: r, o, w => by rw [World.setCells, cells_other hk r, heap_setCell_other _ _ _ _ hk]
theorem cells_rest (g : Nat) : ∀ (vs : List Value) (o : Nat) (w : World), (w.setCells g o vs).os = w.os ∧ (w.setCells g o vs).tape = w.tape ∧ (w.setCells g o vs).output = w.output ∧ (w.setCells g o vs).heap.size = w.heap.size
  | [], _, _ => ⟨rfl, rfl, rfl, rfl⟩
  | v :: r, o, w => by
    obtain ⟨h1, h2, h3, h4⟩ := cells_rest g r (o + 1) (w.setCell ⟨g, o, none⟩ v)
    exact ⟨h1, h2, h3, h4.trans (by simp [World.setCell])⟩
/-- Behind it the row is what it was without its first. -/
theorem del_row {base g cap : Nat} {x : Int} {ys : List Int} {w : World} (h : w.ownsRow base 3 1 (.slice (some ⟨g, 0, none⟩) (ys.length + 1) cap) (ys.length + 1) (ints (x :: ys))) :
    ((w.drew.setCells g 0 (ints ys)).setCells g ys.length [.int .i64 0]).ownsRow base 3 1 (.slice (some ⟨g, 0, none⟩) ys.length cap) ys.length (ints ys) ∧ w.grownBy ((w.drew.setCells g 0 (ints ys)).setCells g ys.length [.int .i64 0]) (some g) := by
  have hcap := own_cap h
  rcases h.2 with ⟨h2, _⟩ | ⟨g', cap', cur, e0, h3, h4, h5, h6, h7, h8⟩
  · cases h2
  · injection e0 with e1 _ e3
    injection e1 with e1
    injection e1 with e1
    subst e1
    subst e3
    obtain ⟨c1, i1, i2⟩ := cells_heap (g := g) (ints ys) 0 w.drew cur h4
    obtain ⟨c2, j1, j2⟩ := cells_heap (g := g) [.int .i64 0] ys.length _ c1 i1
    obtain ⟨a1, a2, a3, a4⟩ := cells_rest g (ints ys) 0 w.drew
    obtain ⟨b1, b2, b3, b4⟩ := cells_rest g [.int .i64 0] ys.length (w.drew.setCells g 0 (ints ys))
    refine ⟨⟨by rw [ints_len, Nat.mul_one], Or.inr ⟨g, cap, c2, rfl, h3, j1, by omega, h6, by omega, ?_⟩⟩, ⟨b1.trans a1, b2.trans a2, b3.trans a3, by rw [b4, a4]; exact Nat.le_refl _, fun k _ hk => ?_⟩⟩
    · apply List.ext_getElem?
      intro i
      rw [List.getElem?_take, Nat.mul_one]
      by_cases hi : i < ys.length
      · rw [if_pos hi, Array.getElem?_toList]
        have hin := World.cell?_setCells_in g (ints ys) 0 w.drew (fun j hj => hcap.2.2.2.2.2.1 _ (by rw [ints_len] at hj; omega)) i (by rw [ints_len]; exact hi)
        rw [Nat.zero_add] at hin
        have hout := World.cell?_setCells_out g [.int .i64 0] ys.length (w.drew.setCells g 0 (ints ys)) ⟨g, i, none⟩ (fun _ _ => Or.inl hi)
        rw [hin, cell_of_row _ g i c2 _ _ j1] at hout
        rw [hout, List.getElem?_eq_getElem (by rw [ints_len]; exact hi)]
      · rw [if_neg hi, List.getElem?_eq_none (by rw [ints_len]; omega)]
    · have hkg : k ≠ g := fun e => hk (by rw [e])
      rw [cells_other hkg, cells_other hkg]
      rfl
theorem del_first (base g cap : Nat) (x : Int) (ys : List Int) (w : World) (h : w.ownsRow base 3 1 (.slice (some ⟨g, 0, none⟩) (ys.length + 1) cap) (ys.length + 1) (ints (x :: ys))) :
    Calls Try.prog 21 #[.slice (some ⟨g, 0, none⟩) (ys.length + 1) cap, .int .i64 0, .int .i64 1] w fun e w' => e = .returned (.slice (some ⟨g, 0, none⟩) ys.length cap) ∧
      w'.ownsRow base 3 1 (.slice (some ⟨g, 0, none⟩) ys.length cap) ys.length (ints ys) ∧ w.grownBy w' (some g) := by
  obtain ⟨_, _, h3, h4, h5, h6, h7⟩ := own_cap h
  refine (del_walk g cap x ys w h3 (by simpa [maxLen] using h4) h5 h6 h7).mono fun e w' ⟨he, hw⟩ => ?_
  subst hw
  exact ⟨he, del_row h⟩
end Go.Proofs.Ytfconbblnmbnpab

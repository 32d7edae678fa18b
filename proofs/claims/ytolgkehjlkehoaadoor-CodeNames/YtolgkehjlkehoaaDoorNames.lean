/-
  framelaw4.CodeNames: the walk.
-/
import Derived.Test.YtolgkehjlkehoaaDoorNamesMath
import Derived.Test.YtolgkehjlkehoaaDoorCut
namespace Go.Proofs.YtolgkehjlkehoaaDoor
open Go.RowKit

theorem ops_one (n a b : Int) (w : World) : Ops (w.alloc (.cells #[.int .i64 n, .int .i64 a, .int .i64 b] 24)) (.slice (some ⟨w.heap.size, 0, none⟩) 1 1) [(n, a, b)] :=
  Or.inr ⟨w.heap.size, 0, 1, rfl, by simp, fun i o ho => by
    match i, ho with
    | 0, ho => simp at ho; subst ho; simp
    | i + 1, ho => simp at ho⟩
theorem own_slice {w : World} {B : Nat} {e : TypeId} {v : Value} {n : Nat} {xs : List Value} (h : w.ownsRow B e 1 v (n + 1) xs) : ∃ g cap, v = .slice (some ⟨g, 0, none⟩) (n + 1) cap ∧ B ≤ g ∧ g < w.heap.size ∧ ∀ (j : Nat) u, xs[j]? = some u → w.cell? ⟨g, j, none⟩ = some u := by
  have hl := h.lt
  have hcs := @World.ownsRow.cells _ _ _ _ _ _ _ h
  rcases h.2 with ⟨_, h0⟩ | ⟨g, cap, cur, rfl, hg, _⟩
  · omega
  · refine ⟨g, cap, rfl, hg, (hl g rfl).2, fun j u hu => ?_⟩
    have := hcs rfl j u hu
    unfold Addr.add at this
    split at this
    · rename_i h0; subst h0; exact this
    · simpa using this

theorem jumpChk : chk [(7, 0, 0)] = (0, 0) := by decide
theorem itoa_zero : Lib.itoa 0 = [48] := by rw [itoa_pos (by omega)]; exact Lib.decDigits_one (by decide)
theorem jumpText : textOf [(7, 0, 0)] = [106, 117, 109, 112, 32, 48, 10] := by
  unfold textOf
  rw [jumpChk, if_pos rfl]
  simp [textB, opB, lineB, tail, nameB, numsB, itoa_zero]
theorem size_alloc (w : World) (o : Obj) : (w.alloc o).heap.size = w.heap.size + 1 := by simp

theorem cut_one (o : O3) (X : List UInt8) (w : World) (hX : cutB 10 (opB o) = [X, []]) (hl : (opB o).length ≤ 50) :
    Calls Tryd.prog 9 #[.string ⟨(opB o).toArray⟩, .int .u8 10] w fun e w' => ∃ g cap, e = .returned (.slice (some ⟨g, 0, none⟩) 2 cap) ∧ g < w'.heap.size ∧ w'.cell? ⟨g, 0, none⟩ = some (.string ⟨X.toArray⟩) ∧ w'.cell? ⟨g, 1, none⟩ = some (.string ⟨#[]⟩) ∧ Below w.heap.size w w' := by
  refine (cut_any ⟨(opB o).toArray⟩ 10 10 rfl w (by rw [ba_size]; omega)).mono ?_
  rintro e w' ⟨v, rfl, hown, hb⟩
  simp only at hown
  rw [hX] at hown
  obtain ⟨g, cap, rfl, _, hg, hc⟩ := own_slice hown
  exact ⟨g, cap, rfl, hg, hc 0 _ rfl, hc 1 _ rfl, hb⟩
theorem cut_two (X : List UInt8) (K : Nat) (w : World) (hX : (cutB 32 X).length = K + 1) (hl : X.length ≤ 50) :
    Calls Tryd.prog 9 #[.string ⟨X.toArray⟩, .int .u8 32] w fun e w' => ∃ g cap, e = .returned (.slice (some ⟨g, 0, none⟩) (K + 1) cap) ∧ Below w.heap.size w w' := by
  refine (cut_any ⟨X.toArray⟩ 32 32 rfl w (by rw [ba_size]; omega)).mono ?_
  rintro e w' ⟨v, rfl, hown, hb⟩
  simp only at hown
  rw [hX] at hown
  obtain ⟨g, cap, rfl, _, _, _⟩ := own_slice hown
  exact ⟨g, cap, rfl, hb⟩

theorem names_end {w w1 w2 w3 w4 : World} {O : Obj} {x : Value} (bw : Below w.heap.size w w1) (hsz : w.heap.size < w1.heap.size) (k0 : w1.cell? ⟨w.heap.size, 0, none⟩ = some x) (b2 : Below (w1.alloc O).heap.size (w1.alloc O) w2) (b3 : Below w2.heap.size w2 w3) (b4 : Below w3.heap.size w3 w4) :
    Below w.heap.size w w4 ∧ w4.cell? ⟨w.heap.size, 0, none⟩ = some x := by
  have c1 : Below w1.heap.size w1 w2 := ((Below.refl _ w1).alloc (Nat.le_refl _) _).trans (b2.mono (by simp))
  have c2 : Below w1.heap.size w1 w4 := (c1.trans (b3.mono c1.size)).trans (b4.mono (Nat.le_trans c1.size b3.size))
  exact ⟨bw.trans (c2.mono bw.size), (c2.cell (p := ⟨w.heap.size, 0, none⟩) hsz).trans k0⟩

set_option maxRecDepth 1000000 in
set_option maxHeartbeats 4000000 in
theorem codeNames_walk (n a b : Int) (w : World) (ht : Tabs w) :
    Calls Tryd.prog 4 #[.agg #[.int .i64 n, .int .i64 a, .int .i64 b]] w fun e w' => e = .returned (.bool true) ∧ Below w.heap.size w w' := by
  have hp1 := print_any _ _ _ ((ht.alloc (.cells #[.int .i64 n, .int .i64 a, .int .i64 b] 24)).alloc (.cells #[.int .i64 7, .int .i64 0, .int .i64 0] 24)) (ops_one 7 0 0 (w.alloc (.cells #[.int .i64 n, .int .i64 a, .int .i64 b] 24)))
  rw [jumpText, jumpChk, show errV ((0 : Int), (0 : Int)).2 = .nilIface from rfl] at hp1
  rw [size_alloc] at hp1
  have hsec : ∀ w1 : World, Below ((w.alloc (.cells #[.int .i64 n, .int .i64 a, .int .i64 b] 24)).alloc (.cells #[.int .i64 7, .int .i64 0, .int .i64 0] 24)).heap.size ((w.alloc (.cells #[.int .i64 n, .int .i64 a, .int .i64 b] 24)).alloc (.cells #[.int .i64 7, .int .i64 0, .int .i64 0] 24)) w1 →
      Below w.heap.size w w1 ∧ w.heap.size < w1.heap.size ∧ w1.cell? ⟨w.heap.size, 0, none⟩ = some (.int .i64 n) ∧ w1.cell? ⟨w.heap.size, 1, none⟩ = some (.int .i64 a) ∧ w1.cell? ⟨w.heap.size, 2, none⟩ = some (.int .i64 b) := fun w1 b1 => by
    have hs := b1.size
    simp at hs
    exact ⟨(((Below.refl _ w).alloc (Nat.le_refl _) _).alloc (by simp) _).trans (b1.mono (by simp; omega)), by omega, (b1.cell (p := ⟨w.heap.size, 0, none⟩) (by simp; omega)).trans (by simp), (b1.cell (p := ⟨w.heap.size, 1, none⟩) (by simp; omega)).trans (by simp), (b1.cell (p := ⟨w.heap.size, 2, none⟩) (by simp; omega)).trans (by simp)⟩
  by_cases hok : (chk [(n, a, b)]).2 = 0
  · have hz := chk_zero hok
    have hos := ok3_small (by simp) (hz.2.2 (n, a, b) (by simp))
    simp only at hos
    obtain ⟨o1, o2, o3, o4, o5, o6⟩ := hos
    have HT : Hid (textOf [(n, a, b)] = opB (n, a, b)) := by show _ = _; unfold textOf; rw [if_pos hok]; simp [textB]
    have HE : Hid (errV (chk [(n, a, b)]).2 = .nilIface) := by show _ = _; rw [hok]; rfl
    have hol := op_le (o := (n, a, b)) ⟨o3, o4⟩ ⟨o5, o6⟩
    have hnp := nums_pos (o := (n, a, b)) o3 o5
    have hX := cut_line (w := nameB n) (zs := numsB (n, a, b)) (not_name (by decide)) hnp
    have hY := cut_words (w := nameB n) (zs := numsB (n, a, b)) (not_name (by decide)) hnp
    have hxl : (nameB n ++ tail (numsB (n, a, b))).length ≤ 50 := by simp only [opB, lineB, List.length_append] at hol ⊢; omega
    have hnl := nums_len (n, a, b)
    clear hok hz hnp
    obtain ⟨K, HK, hn3⟩ : ∃ K : Nat, Hid ((cutB 32 (nameB n ++ tail (numsB (n, a, b)))).length = K + 1) ∧ (((n == 7) = true ∧ (n == 10) = false ∧ (n == 11) = false ∧ K = 1) ∨ ((n == 7) = false ∧ (n == 10) = true ∧ (n == 11) = false ∧ K = 0) ∨ ((n == 7) = false ∧ (n == 10) = false ∧ (n == 11) = true ∧ K = 0) ∨ ((n == 7) = false ∧ (n == 10) = false ∧ (n == 11) = false ∧ K = 2)) := by
      refine ⟨_, hY, ?_⟩
      rw [hnl]
      simp only [beq_eq_false_iff_ne, beq_iff_eq]
      split
      · omega
      · split <;> omega
    clear hY hnl
    have hc1 := fun w => cut_one (n, a, b) _ w hX hol
    have hc2 := fun w => cut_two _ K w HK.out hxl
    clear hX HK hxl hol o1 o2 o3 o4 o5 o6
    rcases hn3 with ⟨hn7, hn10, hn11, rfl⟩ | ⟨hn7, hn10, hn11, rfl⟩ | ⟨hn7, hn10, hn11, rfl⟩ | ⟨hn7, hn10, hn11, rfl⟩
    all_goals
     go_enter Tryd.func4, Tryd.ntmps4
     go_wp2_with (first | (go_at_call 6; refine hp1.mono ?_; rintro e w1 ⟨rfl, b1⟩; clear hp1; obtain ⟨bw, hsz1, k0, k1, k2⟩ := hsec w1 b1; clear hsec b1) | (go_at_call 6; refine (print_any _ _ _ ((ht.all bw).alloc _) (ops_one n a b w1)).mono ?_; rw [HT.out, HE.out]; rintro e w2 ⟨rfl, b2⟩) | (go_at_call 9; refine (hc1 _).mono ?_; rintro e w3 ⟨g, cap, rfl, hg, g0, g1, b3⟩; clear hc1) | (go_at_call 9; refine (hc2 _).mono ?_; rintro e w4 ⟨g', cap', rfl, b4⟩; have q0 := (b4.cell (p := ⟨g, 0, none⟩) hg).trans g0; have q1 := (b4.cell (p := ⟨g, 1, none⟩) hg).trans g1; obtain ⟨bq, q2⟩ := names_end bw hsz1 k0 b2 b3 b4; clear hc2 hg g0 g1 b2 b3 b4 k0 k1 k2 hsz1))
     go_ret
     exact ⟨rfl, bq⟩
  · have HE : Hid (errV (chk [(n, a, b)]).2 = .iface 43 (.int .i64 (chk [(n, a, b)]).2)) := by show _ = _; unfold errV; rw [if_neg hok]
    clear hok
    go_enter Tryd.func4, Tryd.ntmps4
    go_wp2_with (first | (go_at_call 6; refine hp1.mono ?_; rintro e w1 ⟨rfl, b1⟩; clear hp1; obtain ⟨bw, hsz1, k0, k1, k2⟩ := hsec w1 b1; clear hsec b1) | (go_at_call 6; refine (print_any _ _ _ ((ht.all bw).alloc _) (ops_one n a b w1)).mono ?_; rw [HE.out]; rintro e w2 ⟨rfl, b2⟩))
    go_ret
    exact ⟨rfl, bw.trans (((Below.refl _ w1).alloc (Nat.le_refl _) _).trans (b2.mono (by simp)) |>.mono bw.size)⟩
end Go.Proofs.YtolgkehjlkehoaaDoor

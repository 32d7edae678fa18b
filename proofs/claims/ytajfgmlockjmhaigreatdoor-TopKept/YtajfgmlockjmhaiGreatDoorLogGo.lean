/-
  Package log: Go, Poke.
-/
import Derived.Test.YtajfgmlockjmhaiGreatDoorLogDo
import Derived.Test.YtajfgmlockjmhaiGreatDoorJt3
namespace Go.Proofs.YtajfgmlockjmhaiGreatDoor
open Go.RowKit
section
variable {G : World → Prop} {D : KerC G} {w0 : World} {p : PD} {d : LgD} {lb : Nat} {x : LW}

set_option maxRecDepth 100000 in
set_option maxHeartbeats 4000000 in
theorem lgtime_any (k : KD) (W : World) (DT : KerTime D) (h : GL D w0 W p d k lb x) :
    Calls Tryz.prog 23 #[.pointer (some ⟨lb, 0, none⟩)] W fun e w' => e = .returned (.int .i64 k.time) ∧ Below W.heap.size W w' := by
  obtain ⟨_, _, _, _, c4, _, _, _, _⟩ := h.blk.cs
  have hq := DT h.k
  clear h
  go_enter Tryz.func23, Tryz.ntmps23
  go_wp2_with (go_at_call 13; refine hq.mono ?_; rintro e w1 ⟨rfl, nq, hw1⟩; subst hw1; clear hq)
  go_ret
  exact ⟨rfl, below_dN (Below.refl _ _) nq⟩
/-- A slice of numbers that is being built. -/
theorem nums_one (W : World) (F : List Nat) (n : Int) (hF : ∀ g ∈ F, g < W.heap.size) : Nums (W.alloc (.cells #[.int .i64 n] 3)) F (.slice (some ⟨W.heap.size, 0, none⟩) 1 1) [n] := by
  refine Or.inr ⟨W.heap.size, 1, rfl, by simp, fun hm => ?_, fun i z hz => ?_⟩
  · have := hF _ hm
    omega
  · match i, hz with
    | 0, hz => simp at hz; subst hz; simp [go_sem]
set_option maxRecDepth 100000 in
set_option maxHeartbeats 4000000 in
theorem lggo_any (n : Int) (W : World) (DP : KerPoke D) (DT : KerTime D) (hT : ∀ w, G w → Pow10 w) (hG : G w0) (hp : plchk p = 0) (h : GL D w0 W p d (d.k p) lb x) (hok : LOk p d) :
    Calls Tryz.prog 19 #[.pointer (some ⟨lb, 0, none⟩), .int .i64 n] W fun e w' => e = .returned (wErr (goEnd p d n)) ∧ ∃ x' sz, 2 ≤ sz ∧ sz ≤ 100000 ∧ GL D w0 w' p (goL p d n sz) ((goL p d n sz).k p) lb x' ∧ KTouch (x.F lb) W w' ∧ ∀ g ∈ x'.F lb, g ∈ x.F lb ∨ W.heap.size ≤ g := by
  obtain ⟨_, _, _, _, _, _, _, _, c8⟩ := h.blk.cs
  have HGL : Hid (GL D w0 W p d (d.k p) lb x) := h
  by_cases he : goE p d n = 0
  · obtain ⟨hst, h0, h1, h2⟩ := goE_zero he
    obtain ⟨m, rfl⟩ : ∃ m : Nat, n = m := ⟨n.toNat, by omega⟩
    have hE : goEnd p d m = if d.last = true then 6 else 0 := by
      unfold goEnd
      rw [if_pos he]
    have hL : ∀ sz, goL p d m sz = putR d (.go m) sz := fun sz => by
      unfold goL
      rw [if_pos he, Int.toNat_natCast]
    have hs : LsOk (.go m) := fun z hz => by
      simp only [lsN, List.mem_singleton] at hz
      omega
    have hrl := recB_len hs
    have hk0 : 0 ≤ (d.k p).time := (redo_ok hp _).time
    have HT : Hid (∀ W1, Below W.heap.size W W1 → Calls Tryz.prog 23 #[.pointer (some ⟨lb, 0, none⟩)] W1 fun e w' => e = .returned (.int .i64 (d.k p).time) ∧ Below W1.heap.size W1 w') := fun W1 hb => lgtime_any _ W1 DT (h.all hb)
    have HD : Hid (∀ W1, Below W.heap.size W W1 → Calls Tryz.prog 49 #[.pointer (some ⟨lb, 0, none⟩), .string ⟨#[103, 111]⟩, .slice (some ⟨W1.heap.size, 0, none⟩) 1 1] (W1.alloc (.cells #[.int .i64 (m : Nat)] 3)) fun e w' => e = .returned (wErr (goEnd p d m)) ∧ ∃ x' sz, 2 ≤ sz ∧ sz ≤ 100000 ∧ GL D w0 w' p (goL p d m sz) ((goL p d m sz).k p) lb x' ∧ KTouch (x.F lb) W w' ∧ ∀ g ∈ x'.F lb, g ∈ x.F lb ∨ W.heap.size ≤ g) := fun W1 hb => by
      have hb2 : Below W.heap.size W (W1.alloc (.cells #[.int .i64 (m : Nat)] 3)) := hb.alloc hb.size _
      refine (lgdo_any (.go m) _ _ DP hT hG hp (h.all hb2) hok hst hs (nums_one W1 _ _ (fun g hg => Nat.lt_of_lt_of_le (h.flt g hg).2 hb.size))).mono ?_
      rintro e w' ⟨rfl, x', a1, a2, a3⟩
      refine ⟨by rw [hE], x', _, hrl.1, by omega, by rw [hL]; exact a1, (KTouch.of hb2).trans a2, fun g hg => ?_⟩
      rcases a3 g hg with e | e
      · exact Or.inl e
      · exact Or.inr (Nat.le_trans hb2.size e)
    have e0 : decide ((m : Int) < 0) = false := decide_eq_false (by omega)
    have e1 : decide (100 < (m : Int)) = false := decide_eq_false (by omega)
    have e1' : decide (100 < m) = false := decide_eq_false (by omega)
    have htm := hok.tm
    have e2 : decide (2000 < (d.k p).time + (m : Int)) = false := decide_eq_false (by omega)
    rw [hst] at c8
    clear h hok he hE hL hs hrl HGL
    generalize wErr (goEnd p d m) = ev at *
    generalize (d.k p).time = tm at *
    go_enter Tryz.func19, Tryz.ntmps19
    go_wp2_with (first
      | (go_at_call 23; refine (HT.out W (Below.refl _ _)).mono ?_; rintro e w1 ⟨rfl, b1⟩)
      | (go_at_call 49; refine (HD.out w1 b1).mono ?_; rintro e w2 ⟨rfl, HX⟩))
    go_ret
    exact ⟨rfl, HX⟩
  · have hE : goEnd p d n = goE p d n := by
      unfold goEnd
      rw [if_neg he]
    have hL : goL p d n 2 = d := by
      unfold goL
      rw [if_neg he]
    have HX : Hid (∀ W1, Below W.heap.size W W1 → ∃ x' sz, 2 ≤ sz ∧ sz ≤ 100000 ∧ GL D w0 W1 p (goL p d n sz) ((goL p d n sz).k p) lb x' ∧ KTouch (x.F lb) W W1 ∧ ∀ g ∈ x'.F lb, g ∈ x.F lb ∨ W.heap.size ≤ g) := fun W1 hb => ⟨x, 2, Nat.le_refl _, by decide, by rw [hL]; exact HGL.out.all hb, KTouch.of hb, fun g hg => Or.inl hg⟩
    rw [hE]
    cases hst : d.stop with
    | true =>
      have hg : goE p d n = 6 := by
        unfold goE
        rw [if_pos hst]
      rw [hg]
      rw [hst] at c8
      clear h hok he hE hL hg
      go_enter Tryz.func19, Tryz.ntmps19
      go_wp2
      go_ret
      exact ⟨rfl, HX.out _ (Below.refl _ _)⟩
    | false =>
      rw [hst] at c8
      by_cases h1 : n < 0 ∨ 100 < n
      · have hg : goE p d n = 1 := by
          unfold goE
          rw [if_neg (by rw [hst]; decide), if_pos h1]
        rw [hg]
        by_cases h0 : n < 0
        · have e0 : decide (n < 0) = true := decide_eq_true h0
          clear h hok he hE hL hg h1
          go_enter Tryz.func19, Tryz.ntmps19
          go_wp2
          go_ret
          exact ⟨rfl, HX.out _ (Below.refl _ _)⟩
        · have e0 : decide (n < 0) = false := decide_eq_false h0
          have e1 : decide (100 < n) = true := decide_eq_true (h1.resolve_left h0)
          clear h hok he hE hL hg
          go_enter Tryz.func19, Tryz.ntmps19
          go_wp2
          go_ret
          exact ⟨rfl, HX.out _ (Below.refl _ _)⟩
      · have hg : goE p d n = 4 := by
          unfold goE at he ⊢
          rw [if_neg (by rw [hst]; decide), if_neg h1] at he ⊢
          split at he
          · rename_i h2
            rw [if_pos h2]
          · exact absurd rfl he
        have h2 : 2000 < (d.k p).time + n := by
          refine Classical.byContradiction fun h2 => he ?_
          unfold goE
          rw [if_neg (by rw [hst]; decide), if_neg h1, if_neg h2]
        rw [hg]
        have hk0 : 0 ≤ (d.k p).time := (redo_ok hp _).time
        have htm := hok.tm
        have e0 : decide (n < 0) = false := decide_eq_false (by omega)
        have e1 : decide (100 < n) = false := decide_eq_false (by omega)
        have e2 : decide (2000 < (d.k p).time + n) = true := decide_eq_true h2
        have HT : Hid (∀ W1, Below W.heap.size W W1 → Calls Tryz.prog 23 #[.pointer (some ⟨lb, 0, none⟩)] W1 fun e w' => e = .returned (.int .i64 (d.k p).time) ∧ Below W1.heap.size W1 w') := fun W1 hb => lgtime_any _ W1 DT (h.all hb)
        clear h hok he hE hL hg
        generalize (d.k p).time = tm at *
        go_enter Tryz.func19, Tryz.ntmps19
        go_wp2_with (go_at_call 23; refine (HT.out W (Below.refl _ _)).mono ?_; rintro e w1 ⟨rfl, b1⟩)
        go_ret
        exact ⟨rfl, HX.out _ b1⟩
end
end Go.Proofs.YtajfgmlockjmhaiGreatDoor

/-
  supply.Turns, as it was promised.
-/
import Derived.Test.YtfconbblnmbnpahDoorJa5
import Derived.Test.YtfconbblnmbnpahDoorJa1
namespace Go.Proofs.YtfconbblnmbnpahDoor
open Go.RowKit

set_option maxRecDepth 100000 in
set_option maxHeartbeats 2000000 in
theorem suT_any (n : Int) (l : List S3) (v : Value) (r f m : Int) (w : World) (hl : Sps w v l) :
    Calls Tryd.prog 10 #[.int .i64 n, v, .int .i64 r, .int .i64 f, .int .i64 m] w fun e w' => e = .returned (.tuple #[.int .i64 (turnsV n l r f m), wErr (turnsE n l r f m)]) ∧ Below w.heap.size w w' := by
  by_cases h : supE n l r = 0
  · obtain ⟨h0, hr0, hr4⟩ := supE_zero h
    obtain ⟨hn1, hn2, hlen, _, _⟩ := fchk_zero h0
    obtain ⟨n, rfl⟩ : ∃ k : Nat, n = k := ⟨n.toNat, by omega⟩
    have hq := surow_ok n l v r w hl h
    have c1 := fun W => sucnt_any f W
    have c2 := fun W => sucnt_any m W
    obtain ⟨ao, cap, rfl⟩ := hl.form
    by_cases hf : 0 ≤ f ∧ f ≤ 2000
    · by_cases hm : 0 ≤ m ∧ m ≤ 2000
      · have he : turnsE n l r f m = 0 := by unfold turnsE; rw [if_pos h, if_neg (by omega)]
        have hv : turnsV n l r f m = (cnR (hasT n l r) f.toNat m.toNat : Nat) := by unfold turnsV; rw [if_pos he]
        rw [he, hv, show wErr 0 = .nilIface from rfl]
        obtain ⟨f, rfl⟩ : ∃ k : Nat, f = k := ⟨f.toNat, by omega⟩
        obtain ⟨m, rfl⟩ : ∃ k : Nat, m = k := ⟨m.toNat, by omega⟩
        rw [Int.toNat_natCast, Int.toNat_natCast]
        rw [show (decide (0 ≤ (f : Int)) && decide ((f : Int) ≤ 2000)) = true by simp; omega] at c1
        rw [show (decide (0 ≤ (m : Int)) && decide ((m : Int) ≤ 2000)) = true by simp; omega] at c2
        have HT : Hid (∀ (g : Nat) (W : World), Rw W g n (hasT n l r) → Calls Tryd.prog 13 #[.slice (some ⟨g, 0, none⟩) n n, .int .i64 f, .int .i64 m] W fun e w' => e = .returned (.int .i64 (cnR (hasT n l r) f m : Nat)) ∧ w' = W) := fun g W hR => suturns_any (hasT n l r) g n f m W hR (by omega) (by omega) (fun x => hasT_per l r x) (by omega) (by omega)
        generalize cnR (hasT n l r) f m = cc at HT ⊢
        clear hl h h0 he hv hlen hf hm
        go_enter Tryd.func10, Tryd.ntmps10
        go_wp2_with (first | (go_at_call 11; refine hq.mono ?_; rintro e w1 ⟨g, rfl, hR, b1⟩; clear hq; have hT := HT.out g w1 hR; clear HT hR) | (go_at_call 12; refine (c1 _).mono ?_; rintro e w2 ⟨rfl, rfl⟩; clear c1) | (go_at_call 12; refine (c2 _).mono ?_; rintro e w3 ⟨rfl, rfl⟩; clear c2) | (go_at_call 13; refine hT.mono ?_; rintro e w4 ⟨rfl, rfl⟩; clear hT))
        go_ret2
        exact ⟨rfl, b1⟩
      · have he : turnsE n l r f m = 1 := by unfold turnsE; rw [if_pos h, if_pos (by omega)]
        have hv : turnsV n l r f m = 0 := by unfold turnsV; rw [if_neg (by rw [he]; decide)]
        rw [he, hv, show wErr 1 = .iface 46 (.int .i64 1) from rfl]
        rw [show (decide (0 ≤ f) && decide (f ≤ 2000)) = true by simp; omega] at c1
        rw [show (decide (0 ≤ m) && decide (m ≤ 2000)) = false by rw [Bool.eq_false_iff]; simp; omega] at c2
        clear hl h h0 he hv hlen hf hm
        go_enter Tryd.func10, Tryd.ntmps10
        go_wp2_with (first | (go_at_call 11; refine hq.mono ?_; rintro e w1 ⟨g, rfl, hR, b1⟩; clear hq hR) | (go_at_call 12; refine (c1 _).mono ?_; rintro e w2 ⟨rfl, rfl⟩; clear c1) | (go_at_call 12; refine (c2 _).mono ?_; rintro e w3 ⟨rfl, rfl⟩; clear c2))
        go_ret2
        exact ⟨rfl, b1⟩
    · have he : turnsE n l r f m = 1 := by unfold turnsE; rw [if_pos h, if_pos (by omega)]
      have hv : turnsV n l r f m = 0 := by unfold turnsV; rw [if_neg (by rw [he]; decide)]
      rw [he, hv, show wErr 1 = .iface 46 (.int .i64 1) from rfl]
      rw [show (decide (0 ≤ f) && decide (f ≤ 2000)) = false by rw [Bool.eq_false_iff]; simp; omega] at c1
      clear hl h h0 he hv hlen hf c2
      go_enter Tryd.func10, Tryd.ntmps10
      go_wp2_with (first | (go_at_call 11; refine hq.mono ?_; rintro e w1 ⟨g, rfl, hR, b1⟩; clear hq hR) | (go_at_call 12; refine (c1 _).mono ?_; rintro e w2 ⟨rfl, rfl⟩; clear c1))
      go_ret2
      exact ⟨rfl, b1⟩
  · have hq := surow_bad n l v r w hl h
    have he : turnsE n l r f m = supE n l r := by unfold turnsE; rw [if_neg h]
    have hv : turnsV n l r f m = 0 := by unfold turnsV; rw [if_neg (by rw [he]; exact h)]
    rw [he, hv, wErr_not h]
    obtain ⟨ao, cap, rfl⟩ := hl.form
    generalize supE n l r = q at hq
    clear hl h he hv
    go_enter Tryd.func10, Tryd.ntmps10
    go_wp2_with (go_at_call 11; refine hq.mono ?_; rintro e w1 ⟨rfl, b1⟩; clear hq)
    go_ret2
    exact ⟨rfl, b1⟩
theorem sup_turns (G : World → Prop) : SupTurns G := fun n l v r f m W _ hl => suT_any n l v r f m W hl
end Go.Proofs.YtfconbblnmbnpahDoor

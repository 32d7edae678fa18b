/-
  supply.Least, as it was promised.
-/
import Derived.Test.YtheenonakbokpahDoorSuRowOf
import Derived.Test.YtheenonakbokpahDoorSuTurn
import Derived.Test.YtheenonakbokpahDoorSuCnt
import Derived.Test.YtheenonakbokpahDoorSupCL
namespace Go.Proofs.YtheenonakbokpahDoor
open Go.RowKit

set_option maxRecDepth 100000 in
set_option maxHeartbeats 2000000 in
theorem suL_any (n : Int) (l : List S3) (v : Value) (r m : Int) (w : World) (hl : Sps w v l) :
    Calls Tryd.prog 5 #[.int .i64 n, v, .int .i64 r, .int .i64 m] w fun e w' => e = .returned (.tuple #[.int .i64 (leastV n l r m), wErr (leastE n l r m)]) ∧ Below w.heap.size w w' := by
  by_cases h : supE n l r = 0
  · obtain ⟨h0, hr0, hr4⟩ := supE_zero h
    obtain ⟨hn1, hn2, hlen, _, _⟩ := fchk_zero h0
    obtain ⟨n, rfl⟩ : ∃ k : Nat, n = k := ⟨n.toNat, by omega⟩
    have hq := surow_ok n l v r w hl h
    have c2 := fun W => sucnt_any m W
    obtain ⟨ao, cap, rfl⟩ := hl.form
    by_cases hm : 0 ≤ m ∧ m ≤ 2000
    · have he : leastE n l r m = 0 := by unfold leastE; rw [if_pos h, if_neg (by omega)]
      have hv : leastV n l r m = (leastT (hasT n l r) n m.toNat : Nat) := by unfold leastV; rw [if_pos he, Int.toNat_natCast]
      rw [he, hv, show wErr 0 = .nilIface from rfl]
      obtain ⟨m, rfl⟩ : ∃ k : Nat, m = k := ⟨m.toNat, by omega⟩
      rw [Int.toNat_natCast]
      rw [show (decide (0 ≤ (m : Int)) && decide ((m : Int) ≤ 2000)) = true by simp; omega] at c2
      have HT : Hid (∀ (g f : Nat) (W : World), f < n → Rw W g n (hasT n l r) → Calls Tryd.prog 17 #[.slice (some ⟨g, 0, none⟩) n n, .int .i64 f, .int .i64 m] W fun e w' => e = .returned (.int .i64 (cnR (hasT n l r) f m : Nat)) ∧ w' = W) := fun g f W hf hR => suturns_any (hasT n l r) g n f m W hR (by omega) (by omega) (fun x => hasT_per l r x) (by omega) (by omega)
      have HL : Hid (lsM (hasT n l r) m n = leastT (hasT n l r) n m) := lsM_least _ m (by omega)
      have hcn : ∀ f, cnR (hasT n l r) f m ≤ m := fun f => cn_le _ f m
      have hm2 : m ≤ 2000 := by omega
      have hn3 : n ≤ 40 := by omega
      generalize hasT n l r = P at *
      clear hl h h0 he hv hlen hm hn1 hn2
      go_enter Tryd.func5, Tryd.ntmps5
      go_wp2_with (first | (go_at_call 15; refine hq.mono ?_; rintro e w1 ⟨g, rfl, hR, b1⟩; clear hq) | (go_at_call 16; refine (c2 _).mono ?_; rintro e w3 ⟨rfl, rfl⟩; clear c2))
      go_loopw [12, 30] (fun s12 s30 wr => ∃ k : Nat, k ≤ n ∧ s30 = .int .i64 k ∧ (∃ c : Nat, s12 = .int .i64 c ∧ Hid (c = lsM P m k) ∧ c ≤ m) ∧ w3 = wr) (fun _ s30 _ => n - (intOf s30).toNat)
      case atStart => exact ⟨0, Nat.zero_le _, rfl, ⟨m, rfl, rfl, Nat.le_refl _⟩, rfl⟩
      case round =>
        obtain ⟨k, hk, rfl, ⟨c, rfl, HC, hc⟩, rfl⟩ := hrel
        by_cases hkn : k < n
        · have hki : (k : Int) < (n : Int) := by omega
          have hT := HT.out g k _ hkn hR
          have HS : Hid (lsM P m (k + 1) = min c (cnR P k m)) := by
            show lsM P m (k + 1) = _
            rw [HC.out]
            rfl
          have hx := hcn k
          generalize cnR P k m = x at hT HS hx
          go_wp2_with (go_at_call 17; refine hT.mono ?_; rintro e w4 ⟨rfl, rfl⟩; clear hT)
          go_roundw
          case rel => exact ⟨k + 1, by omega, by go_num, ⟨min c x, by congr 1; split <;> omega, HS.out.symm, by omega⟩, by trivial⟩
          case measure => simp [intOf]; omega
        · obtain rfl : k = n := by omega
          have HF : Hid (c = leastT P k m) := HC.out.trans HL.out
          clear HT
          go_wp2
          go_ret2
          exact ⟨congrArg (fun x : Nat => Ending.returned (.tuple #[.int .i64 (x : Int), .nilIface])) HF.out, b1⟩
    · have he : leastE n l r m = 1 := by unfold leastE; rw [if_pos h, if_pos (by omega)]
      have hv : leastV n l r m = 0 := by unfold leastV; rw [if_neg (by rw [he]; decide)]
      rw [he, hv, show wErr 1 = .iface 56 (.int .i64 1) from rfl]
      rw [show (decide (0 ≤ m) && decide (m ≤ 2000)) = false by rw [Bool.eq_false_iff]; simp; omega] at c2
      clear hl h h0 he hv hlen hm
      go_enter Tryd.func5, Tryd.ntmps5
      go_wp2_with (first | (go_at_call 15; refine hq.mono ?_; rintro e w1 ⟨g, rfl, hR, b1⟩; clear hq hR) | (go_at_call 16; refine (c2 _).mono ?_; rintro e w3 ⟨rfl, rfl⟩; clear c2))
      go_ret2
      exact ⟨rfl, b1⟩
  · have hq := surow_bad n l v r w hl h
    have he : leastE n l r m = supE n l r := by unfold leastE; rw [if_neg h]
    have hv : leastV n l r m = 0 := by unfold leastV; rw [if_neg (by rw [he]; exact h)]
    rw [he, hv, wErr_not h]
    obtain ⟨ao, cap, rfl⟩ := hl.form
    generalize supE n l r = q at hq
    clear hl h he hv
    go_enter Tryd.func5, Tryd.ntmps5
    go_wp2_with (go_at_call 15; refine hq.mono ?_; rintro e w1 ⟨rfl, b1⟩; clear hq)
    go_ret2
    exact ⟨rfl, b1⟩
theorem sup_least (G : World → Prop) : SupLeast G := fun n l v r m W _ hl => suL_any n l v r m W hl
end Go.Proofs.YtheenonakbokpahDoor

/-
  supply.Wait, as it was promised.
-/
import Derived.Test.YtkoomlnndnjllahGreatDoorSuRowOf
import Derived.Test.YtkoomlnndnjllahGreatDoorJa13
namespace Go.Proofs.YtkoomlnndnjllahGreatDoor
open Go.RowKit

set_option maxRecDepth 100000 in
set_option maxHeartbeats 2000000 in
theorem suW_any (n : Int) (l : List S3) (v : Value) (r t : Int) (w : World) (hl : Sps w v l) :
    Calls Tryz.prog 22 #[.int .i64 n, v, .int .i64 r, .int .i64 t] w fun e w' => ∃ m : Nat, e = .returned (.tuple #[.int .i64 (m : Int), wErr (waitE n l r t)]) ∧ (waitE n l r t = 0 → WaitIs (hasT n l r) n.toNat t.toNat m) ∧ (waitE n l r t ≠ 0 → m = 0) ∧ Below w.heap.size w w' := by
  by_cases h : supE n l r = 0
  · obtain ⟨h0, hr0, hr4⟩ := supE_zero h
    obtain ⟨hn1, hn2, hlen, _, _⟩ := fchk_zero h0
    obtain ⟨n, rfl⟩ : ∃ k : Nat, n = k := ⟨n.toNat, by omega⟩
    have hq := surow_ok n l v r w hl h
    obtain ⟨ao, cap, rfl⟩ := hl.form
    rw [Int.toNat_natCast]
    by_cases ht : 0 ≤ t ∧ t ≤ 100
    · obtain ⟨t, rfl⟩ : ∃ k : Nat, t = k := ⟨t.toNat, by omega⟩
      rw [Int.toNat_natCast]
      have hper : ∀ x, hasT n l r (x + n) = hasT n l r x := fun x => hasT_per l r x
      have HCn : Hid (∀ (g : Nat) (W : World), Rw W g n (hasT n l r) → Calls Tryz.prog 48 #[.slice (some ⟨g, 0, none⟩) n n, .bool true] W fun e w' => e = .returned (.bool (decide (0 < cnR (hasT n l r) 0 n))) ∧ w' = W) := fun g W hR => sucon_any (hasT n l r) g n W hR (by omega)
      by_cases hbad : t ≠ 0 ∧ cnR (hasT n l r) 0 n = 0
      · have he : waitE n l r t = 5 := by unfold waitE; rw [if_pos h, if_neg (by omega), Int.toNat_natCast, if_pos ⟨by omega, hbad.2⟩]
        rw [he, show wErr 5 = .iface 85 (.int .i64 5) from rfl]
        rw [hbad.2] at HCn
        have ht0 : (0 : Int) < (t : Int) := by omega
        have ht1 : decide ((t : Int) < 0) = false := decide_eq_false (by omega)
        have ht2 : decide ((100 : Int) < (t : Int)) = false := decide_eq_false (by omega)
        have ht3 : decide (100 < t) = false := decide_eq_false (by omega)
        clear hl h h0 he hlen hbad hper ht
        go_enter Tryz.func22, Tryz.ntmps22
        go_wp2_with (first | (go_at_call 47; refine hq.mono ?_; rintro e w1 ⟨g, rfl, hR, b1⟩; clear hq; have hC := HCn.out g w1 hR; clear HCn hR) | (go_at_call 48; refine hC.mono ?_; rintro e w3 ⟨rfl, rfl⟩; clear hC))
        go_ret2
        exact ⟨0, rfl, fun h => (by cases h), fun _ => rfl, b1⟩
      · have hsome : t ≠ 0 → 0 < cnR (hasT n l r) 0 n := fun h => by
          by_cases h5 : cnR (hasT n l r) 0 n = 0
          · exact absurd ⟨h, h5⟩ hbad
          · omega
        have he : waitE n l r t = 0 := by unfold waitE; rw [if_pos h, if_neg (by omega), Int.toNat_natCast, if_neg (fun hh => hbad ⟨by omega, hh.2⟩)]
        rw [he, show wErr 0 = .nilIface from rfl]
        have HU : Hid (∀ (g f : Nat) (W : World), f < n → Rw W g n (hasT n l r) → Calls Tryz.prog 49 #[.slice (some ⟨g, 0, none⟩) n n, .int .i64 f, .int .i64 t] W fun e w' => ∃ s : Nat, e = .returned (.int .i64 (s : Nat)) ∧ s ≤ 4000 ∧ OneW (hasT n l r) f t s ∧ w' = W) := fun g f W hf hR => suuntil_any (hasT n l r) g n f t W hR (by omega) (by omega) hper (by omega) (by omega) hsome
        have HM : Hid (∀ M, (∀ f, f < n → ∃ s, OneW (hasT n l r) f t s ∧ s ≤ M) → (∃ f, f < n ∧ OneW (hasT n l r) f t M) → WaitIs (hasT n l r) n t M) := fun M h1 h2 => wait_most (by omega) h1 h2 hper
        have hn0 : 0 < n := by omega
        have HC2 : Hid (t ≠ 0 → decide (0 < cnR (hasT n l r) 0 n) = true) := fun h => by simpa using hsome h
        have ht1 : decide ((t : Int) < 0) = false := decide_eq_false (by omega)
        have ht2 : decide ((100 : Int) < (t : Int)) = false := decide_eq_false (by omega)
        have ht3 : decide (100 < t) = false := decide_eq_false (by omega)
        have hn3 : n ≤ 40 := by omega
        generalize hasT n l r = P at *
        clear hl h h0 he hlen hbad hper hsome hn1 hn2 ht
        go_enter Tryz.func22, Tryz.ntmps22
        go_upto_region 6 with (go_at_call 47; refine hq.mono ?_; rintro e w1 ⟨g, rfl, hR, b1⟩; clear hq)
        have hC := HCn.out g w1 hR
        clear HCn
        go_cut [37] from 31 to 36 (fun s37 wc => s37 = .bool false ∧ wc = w1)
        case first =>
          by_cases ht0 : t = 0
          · subst ht0
            clear hC HU HM HC2
            go_wp2
            go_meet
            exact ⟨rfl, rfl⟩
          · rw [HC2.out ht0] at hC
            have ht4 : (0 : Int) < (t : Int) := by omega
            clear HU HM HC2
            go_wp2_with (go_at_call 48; refine hC.mono ?_; rintro e w3 ⟨rfl, rfl⟩; clear hC)
            go_meet
            exact ⟨rfl, rfl⟩
        obtain ⟨rfl, hwc⟩ := hcut
        rw [hwc]
        clear hC HC2 hwc
        go_wp2
        go_loopw [12, 40] (fun s12 s40 wr => ∃ k : Nat, k ≤ n ∧ s40 = .int .i64 k ∧ (∃ c : Nat, s12 = .int .i64 c ∧ c ≤ 4000 ∧ Hid ((∀ f, f < k → ∃ s, OneW P f t s ∧ s ≤ c) ∧ (0 < k → ∃ f, f < k ∧ OneW P f t c) ∧ (k = 0 → c = 0))) ∧ w1 = wr) (fun _ s40 _ => n - (intOf s40).toNat)
        case atStart => exact ⟨0, Nat.zero_le _, rfl, ⟨0, rfl, by omega, fun f hf => by omega, fun h => by omega, fun _ => rfl⟩, rfl⟩
        case round =>
          obtain ⟨k, hk, rfl, ⟨c, rfl, hc, HC⟩, rfl⟩ := hrel
          by_cases hkn : k < n
          · have hki : (k : Int) < (n : Int) := by omega
            have hT := HU.out g k w1 hkn hR
            go_wp2_with (go_at_call 49; refine hT.mono ?_; rintro e w4 ⟨s, rfl, hs, ho, rfl⟩; clear hT)
            go_roundw
            case rel =>
              refine ⟨k + 1, by omega, by go_num, ⟨max c s, by congr 1; first | omega | (split <;> omega), by omega, fun f hf => ?_, fun _ => ?_, fun h => by omega⟩, by trivial⟩
              · by_cases e : f = k
                · subst e; exact ⟨s, ho, by omega⟩
                · obtain ⟨s', h1, h2⟩ := HC.out.1 f (by omega)
                  exact ⟨s', h1, by omega⟩
              · by_cases hcs : s ≤ c
                · rw [Nat.max_eq_left hcs]
                  by_cases hk0 : k = 0
                  · have := HC.out.2.2 hk0
                    have hsc : s = c := by omega
                    subst hsc
                    exact ⟨k, by omega, ho⟩
                  · obtain ⟨f, h1, h2⟩ := HC.out.2.1 (by omega)
                    exact ⟨f, by omega, h2⟩
                · rw [Nat.max_eq_right (by omega)]
                  exact ⟨k, by omega, ho⟩
            case measure => simp [intOf]; omega
          · obtain rfl : k = n := by omega
            have HF : Hid (WaitIs P k t c) := HM.out c HC.out.1 (HC.out.2.1 hn0)
            clear HU
            go_wp2
            go_ret2
            exact ⟨c, rfl, fun _ => HF.out, fun h => absurd rfl h, b1⟩
    · have he : waitE n l r t = 1 := by unfold waitE; rw [if_pos h, if_pos (by omega)]
      rw [he, show wErr 1 = .iface 85 (.int .i64 1) from rfl]
      clear hl h h0 he hlen
      by_cases h1 : t < 0
      · clear ht
        go_enter Tryz.func22, Tryz.ntmps22
        go_wp2_with (go_at_call 47; refine hq.mono ?_; rintro e w1 ⟨g, rfl, hR, b1⟩; clear hq hR)
        go_ret2
        exact ⟨0, rfl, fun h => (by cases h), fun _ => rfl, b1⟩
      · have h1' : decide (t < 0) = false := by simpa using h1
        have h2 : (100 : Int) < t := by omega
        clear ht
        go_enter Tryz.func22, Tryz.ntmps22
        go_wp2_with (go_at_call 47; refine hq.mono ?_; rintro e w1 ⟨g, rfl, hR, b1⟩; clear hq hR)
        go_ret2
        exact ⟨0, rfl, fun h => (by cases h), fun _ => rfl, b1⟩
  · have hq := surow_bad n l v r w hl h
    have he : waitE n l r t = supE n l r := by unfold waitE; rw [if_neg h]
    rw [he, wErr_not h]
    obtain ⟨ao, cap, rfl⟩ := hl.form
    have HE : Hid (supE n l r ≠ 0) := h
    generalize supE n l r = q at hq HE
    clear hl h he
    go_enter Tryz.func22, Tryz.ntmps22
    go_wp2_with (go_at_call 47; refine hq.mono ?_; rintro e w1 ⟨rfl, b1⟩; clear hq)
    go_ret2
    exact ⟨0, rfl, fun h => absurd h HE.out, fun _ => rfl, b1⟩
theorem sup_wait (G : World → Prop) : SupWait G := fun n l v r t W _ hl => suW_any n l v r t W hl
end Go.Proofs.YtkoomlnndnjllahGreatDoor

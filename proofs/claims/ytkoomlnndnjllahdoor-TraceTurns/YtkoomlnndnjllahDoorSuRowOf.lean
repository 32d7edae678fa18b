/-
  Package supply: rowOf, whole.
-/
import Derived.Test.YtkoomlnndnjllahDoorSuOf
import Derived.Deep.RegionWith
import Derived.RangeFuncNested
namespace Go.Proofs.YtkoomlnndnjllahDoor
open Go.RowKit

set_option maxRecDepth 100000 in
set_option maxHeartbeats 2000000 in
theorem surow_bad (n : Int) (l : List S3) (v : Value) (r : Int) (w : World) (hl : Sps w v l) (h : supE n l r ≠ 0) :
    Calls Tryd.prog 11 #[.int .i64 n, v, .int .i64 r] w fun e w' => e = .returned (.tuple #[.slice none 0 0, .iface 46 (.int .i64 (supE n l r))]) ∧ Below w.heap.size w w' := by
  have b0 : Below w.heap.size w (w.alloc (.cells #[.int .i64 r] 3)) := (Below.refl _ _).alloc (Nat.le_refl _) _
  have hch := fcheck_any n l v _ (hl.all b0)
  obtain ⟨ao, cap, rfl⟩ := hl.form
  clear hl
  by_cases h0 : (fchk n l).2 = 0
  · rw [h0, show fErr 0 = .nilIface from rfl] at hch
    have he : supE n l r = 1 := by
      unfold supE at h ⊢
      rw [if_pos h0] at h ⊢
      split at h
      · rename_i hr; rw [if_pos hr]
      · exact absurd rfl h
    have hr : r < 0 ∨ 4 < r := by
      unfold supE at he
      rw [if_pos h0] at he
      split at he
      · assumption
      · cases he
    rw [he]
    clear he h h0
    by_cases h1 : r < 0
    · clear hr
      go_enter Tryd.func11, Tryd.ntmps11
      go_wp2_with (go_at_call 22; refine hch.mono ?_; rintro e w1 ⟨rfl, b1⟩; clear hch; have c0 : w1.cell? ⟨w.heap.size, 0, none⟩ = some (.int .i64 r) := (b1.cell (p := ⟨w.heap.size, 0, none⟩) (by simp)).trans (by simp))
      go_ret2
      exact ⟨rfl, b0.trans (b1.mono (by simp))⟩
    · have h1' : decide (r < 0) = false := by simpa using h1
      have h2' : decide (5 ≤ r) = true := by simp; omega
      clear hr
      go_enter Tryd.func11, Tryd.ntmps11
      go_wp2_with (go_at_call 22; refine hch.mono ?_; rintro e w1 ⟨rfl, b1⟩; clear hch; have c0 : w1.cell? ⟨w.heap.size, 0, none⟩ = some (.int .i64 r) := (b1.cell (p := ⟨w.heap.size, 0, none⟩) (by simp)).trans (by simp))
      go_ret2
      exact ⟨rfl, b0.trans (b1.mono (by simp))⟩
  · rw [fErr_not h0] at hch
    have he : supE n l r = (fchk n l).2 := by unfold supE; rw [if_neg h0]
    rw [he]
    generalize (fchk n l).2 = q at hch
    generalize (fchk n l).1 = q1 at hch
    clear he h h0
    go_enter Tryd.func11, Tryd.ntmps11
    go_wp2_with (go_at_call 22; refine hch.mono ?_; rintro e w1 ⟨rfl, b1⟩; clear hch)
    go_ret2
    exact ⟨rfl, b0.trans (b1.mono (by simp))⟩
theorem RwN.congr {w : World} {g n : Nat} {P Q : Nat → Bool} (h : RwN w g n P) (hq : ∀ i, i < n → P i = Q i) : RwN w g n Q := fun i hi => by rw [← hq i hi]; exact h i hi
theorem rwn_new (W : World) (n : Nat) (P : Nat → Bool) (hP : ∀ i, i < n → P i = false) : RwN (W.alloc (.cells (madeCells #[.bool false] n) 4)) W.heap.size n P := fun i hi => by
  have hN := World.alloc_heap_new W (.cells (madeCells #[.bool false] n) 4)
  rw [hP i hi]
  generalize W.alloc (.cells (madeCells #[.bool false] n) 4) = W2 at hN ⊢
  constructor
  · simp [World.cell?, hN, madeCells, hi, Nat.mod_one]
  · simp [World.frozen?, hN]
set_option maxRecDepth 100000 in
set_option maxHeartbeats 4000000 in
theorem surow_ok (n : Nat) (l : List S3) (v : Value) (r : Int) (w : World) (hl : Sps w v l) (h : supE n l r = 0) :
    Calls Tryd.prog 11 #[.int .i64 n, v, .int .i64 r] w fun e w' => ∃ g, e = .returned (.tuple #[.slice (some ⟨g, 0, none⟩) n n, .nilIface]) ∧ Rw w' g n (hasT n l r) ∧ Below w.heap.size w w' := by
  obtain ⟨h0, hr0, hr4⟩ := supE_zero h
  obtain ⟨hn1, hn2, hlen, _, hz⟩ := fchk_zero h0
  have b0 : Below w.heap.size w (w.alloc (.cells #[.int .i64 r] 3)) := (Below.refl _ _).alloc (Nat.le_refl _) _
  have hch := fcheck_any n l v _ (hl.all b0)
  rw [hz, show fErr (0, 0).2 = .nilIface from rfl] at hch
  have HRow : Hid (∀ t : Nat, t < n → l.any (mine r t) = hasT n l r t) := fun t ht => hasT_row h0 hr0 ht
  have HCon : Hid (∀ (tb : Nat) (t : Int) (W : World), Below w.heap.size w W → W.cell? ⟨w.heap.size, 0, none⟩ = some (.int .i64 r) → W.cell? ⟨tb, 0, none⟩ = some (.int .i64 t) → Calls Tryd.prog 23 #[v, .func (.func 24) #[] #[.pointer (some ⟨w.heap.size, 0, none⟩), .pointer (some ⟨tb, 0, none⟩)]] W fun e w' => e = .returned (.bool (l.any (mine r t))) ∧ Below W.heap.size W w') := fun tb t W hb k0 k1 => conMine l v r t w.heap.size tb W k0 k1 hlen (hl.all hb)
  have h1' : decide (r < 0) = false := by simp; omega
  have h2' : decide (5 ≤ r) = false := by simp; omega
  have hmk := made_row n (by omega)
  obtain ⟨ao, cap, rfl⟩ := hl.form
  have hn40 : n ≤ 40 := by omega
  clear hl h h0 hz hlen
  go_enter Tryd.func11, Tryd.ntmps11
  go_upto_region 6 with (go_at_call 22; refine hch.mono ?_; rintro e w1 ⟨rfl, b1⟩; clear hch; have c0 : w1.cell? ⟨w.heap.size, 0, none⟩ = some (.int .i64 r) := (b1.cell (p := ⟨w.heap.size, 0, none⟩) (by simp)).trans (by simp))
  have HB1 : Hid (Below w.heap.size w w1) := b0.trans (b1.mono (by simp))
  have hs1 : w.heap.size + 1 ≤ w1.heap.size := by have := b1.size; simp at this; omega
  have HN : Hid (RwN (w1.alloc (.cells (madeCells #[.bool false] n) 4)) w1.heap.size n (fun i => if i < 0 then hasT n l r i else false)) := rwn_new w1 n _ (fun i _ => by simp)
  have HB2 : Hid (Below w.heap.size w (w1.alloc (.cells (madeCells #[.bool false] n) 4))) := HB1.out.alloc HB1.out.size _
  have HC2 : Hid ((w1.alloc (.cells (madeCells #[.bool false] n) 4)).cell? ⟨w.heap.size, 0, none⟩ = some (.int .i64 r)) := (((Below.refl _ w1).alloc (Nat.le_refl _) _).cell (p := ⟨w.heap.size, 0, none⟩) (show w.heap.size < w1.heap.size by omega)).trans c0
  have hs2 : w1.heap.size + 1 ≤ (w1.alloc (.cells (madeCells #[.bool false] n) 4)).heap.size := by simp
  clear b0 b1 HB1 c0
  go_wp2
  generalize w1.alloc (.cells (madeCells #[.bool false] n) 4) = w2 at HN HB2 HC2 hs2 ⊢
  generalize w1.heap.size = g at HN hs1 hs2 ⊢
  clear hmk
  go_loopw [31] (fun s31 wr => ∃ k : Nat, k ≤ n ∧ s31 = .int .i64 k ∧ Hid (RwN wr g n (fun i => if i < k then hasT n l r i else false)) ∧ Hid (wr.cell? ⟨w.heap.size, 0, none⟩ = some (.int .i64 r)) ∧ g + 1 ≤ wr.heap.size ∧ Hid (Below w.heap.size w wr)) (fun s31 _ => n - (intOf s31).toNat)
  case atStart => exact ⟨0, Nat.zero_le _, rfl, HN, HC2, hs2, HB2⟩
  case round =>
    clear HN HC2 hs2 HB2
    obtain ⟨k, hk, rfl, HR, HC, hs, HB⟩ := hrel
    by_cases hkn : k < n
    · have hki : (k : Int) < (n : Int) := by omega
      go_upto_region 10 with fail
      have bt : Below wr.heap.size wr (wr.alloc (.cells #[.int .i64 (k : Int)] 3)) := (Below.refl _ _).alloc (Nat.le_refl _) _
      have hst : wr.heap.size < (wr.alloc (.cells #[.int .i64 (k : Int)] 3)).heap.size := by simp
      have ct : (wr.alloc (.cells #[.int .i64 (k : Int)] 3)).cell? ⟨wr.heap.size, 0, none⟩ = some (.int .i64 (k : Int)) := by simp
      generalize wr.alloc (.cells #[.int .i64 (k : Int)] 3) = wt at bt hst ct ⊢
      have hq := HCon.out wr.heap.size (k : Int) wt.drew ((HB.out.trans (bt.mono HB.out.size)).drew) ((bt.cell (p := ⟨w.heap.size, 0, none⟩) (show w.heap.size < wr.heap.size by omega)).trans HC.out) ct
      rw [HRow.out k hkn] at hq
      generalize hb : hasT n l r k = b at hq
      have HBT : Hid (Below w.heap.size w wt) := HB.out.trans (bt.mono HB.out.size)
      have HRT : Hid (RwN wt g n (fun i => if i < k then hasT n l r i else false)) := HR.out.below bt (by omega)
      have HCT : Hid (wt.cell? ⟨w.heap.size, 0, none⟩ = some (.int .i64 r)) := (bt.cell (p := ⟨w.heap.size, 0, none⟩) (show w.heap.size < wr.heap.size by omega)).trans HC.out
      have HK : Hid (∀ W, Below wt.drew.heap.size wt.drew W → W.cell? ⟨wr.heap.size, 0, none⟩ = some (.int .i64 (k : Int)) ∧ (∃ c, W.cell? ⟨g, k, none⟩ = some (.bool c)) ∧ W.frozen? ⟨g, k, none⟩ = false) := fun W hW => ⟨(hW.cell (p := ⟨wr.heap.size, 0, none⟩) hst).trans ct, ⟨_, (hW.cell (p := ⟨g, k, none⟩) (show g < wt.heap.size by omega)).trans (HRT.out k hkn).1⟩, (hW.frozen (p := ⟨g, k, none⟩) (show g < wt.heap.size by omega)).trans (HRT.out k hkn).2⟩
      have HHB : Hid (hasT n l r k = b) := hb
      obtain ⟨⟨c0, hc0⟩, hf0⟩ := (HK.out wt.drew (Below.refl _ _)).2
      clear hb HR HC HB
      go_region_with (go_at_call 23; refine hq.mono ?_; rintro e w3 ⟨rfl, b3⟩; obtain ⟨k1, ⟨k2c, k2⟩, k3⟩ := HK.out w3 b3)
      all_goals (
        go_wp2
        go_roundw
        case rel =>
          have b3' : Below wt.heap.size wt w3 := ((Below.refl _ wt).drew).trans b3
          have hb3 := b3'.size
          have HBB := HBT.out.trans (b3'.mono HBT.out.size)
          refine ⟨k + 1, by omega, by go_num, ?_, ?_, by simp; omega, HBB.setCell (p := ⟨g, k, none⟩) (show w.heap.size ≤ g by omega) _⟩
          · refine ((HRT.out.below b3' (by omega)).set hkn b).congr fun i hi => ?_
            by_cases e : i = k
            · subst e
              simp [HHB.out]
            · by_cases e2 : i < k
              · simp [e, e2, show i < k + 1 by omega]
              · simp [e, e2, show ¬ i < k + 1 by omega]
          · refine (World.cell?_of_block (w := w3) (a := ⟨w.heap.size, 0, none⟩) (Below.heap_setCell _ _ _ _ (show w.heap.size ≠ g by omega))).trans ?_
            exact (b3'.cell (p := ⟨w.heap.size, 0, none⟩) (show w.heap.size < wt.heap.size by omega)).trans HCT.out
        case measure => simp [intOf]; omega)
    · obtain rfl : k = n := by omega
      have HF : Hid (Rw wr g k (hasT k l r)) := ⟨by omega, fun i hi => by have := (HR.out i hi).1; simp only [if_pos hi] at this; exact this⟩
      clear HR HCon HRow
      go_wp2
      go_ret2
      exact ⟨g, rfl, HF.out, HB.out⟩
end Go.Proofs.YtkoomlnndnjllahDoor

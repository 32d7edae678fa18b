/-
  The law FrameTells: of a frame that is right; the tick is not below 0; the room has no share.
-/
import Derived.Test.YtmlkfmiaaaienabDoorFTells2
namespace Go.Proofs.YtmlkfmiaaaienabDoor
open Go.RowKit

set_option maxRecDepth 1000000 in
set_option maxHeartbeats 8000000 in
theorem ftells_PZ (n : Nat) (l : List S3) (ao : Option Addr) (m cap : Nat) (t : Nat) (r : Nat) (w : World) (hn0 : 1 ≤ n) (hn1 : n ≤ 40) (hro : ∀ t, -1 ≤ hold l t ∧ hold l t < 5)  (hr : r < 5) (hz : shr l n r = 0) (K : TellsK n l (.slice ao m cap) w) :
    Calls Tryd.prog 4 #[.int .i64 n, .slice ao m cap, .int .i64 t, .int .i64 r] w fun ev w' => ev = .returned (.bool true) ∧ Below w.heap.size w w' := by
  obtain ⟨ii, hi, hz0, hz1, hz2⟩ := info_parts infoI
  have HK : Hid (TellsK n l (.slice ao m cap) w) := K
  have HR : Hid (∀ t, -1 ≤ hold l t ∧ hold l t < 5) := hro
  have h1 := K.ref w (Below.refl _ _)
  clear K hro
  obtain ⟨q, hq⟩ : ∃ q, hold l ((t % n : Nat) : Int) = q := ⟨_, rfl⟩
  have ht' : decide ((t : Int) < 0) = false := by simp
  go_enter Tryd.func4, Tryd.ntmps4
  go_wp2_with (first | (go_at_call 8; refine h1.mono ?_; rintro ev w1 ⟨rfl, b1⟩; clear h1; have h2 := HK.out.chk w1 b1) | (go_at_call 9; refine h2.mono ?_; rintro ev w2 ⟨rfl, b2⟩; clear h2; have bw2 := b1.trans (b2.mono b1.size); have h3 := HK.out.none w2 bw2) | (go_at_call 10; refine h3.mono ?_; rintro ev w3 ⟨rfl, b3⟩; clear h3; have bw3 := bw2.trans (b3.mono bw2.size); have h4 := HK.out.rwho t w3 bw3; rw [hq] at h4) | (go_at_call 11; refine h4.mono ?_; rintro ev w4 ⟨rfl, b4⟩; clear h4; have bw4 := bw3.trans (b4.mono bw3.size); have h5 := HK.out.who t w4 bw4; rw [hq] at h5) | (go_at_call 12; refine h5.mono ?_; rintro ev w5 ⟨rfl, b5⟩; clear h5; have bw5 := bw4.trans (b5.mono bw4.size); have h6 := HK.out.none w5 bw5) | (go_at_call 10; refine h6.mono ?_; rintro ev w6 ⟨rfl, b6⟩; clear h6; have bw6 := bw5.trans (b6.mono bw5.size); have hs6 := bw6.size) | (at_make; refine wpList_make_full _ rfl _ _ 42 rfl w.heap.size 3 ii (.int .i64 0) 1 Tryd.underlying42 hi hz0 hz1 .i64 .i64 _ _ 5 rfl rfl rfl rfl (by rw [hz2]; omega) (by unfold maxLen; omega) hs6 ?_; intro w0 hown0 hgrow0))
  have hb0 : Below w.heap.size w w0 := bw6.grown hgrow0 hs6 (fun k e => by cases e)
  have h5' : Five w0 w6.heap.size (shr l 0) := by rw [shr_zero]; exact five_made hown0
  have hlt0 : w6.heap.size < w0.heap.size := (hown0.lt w6.heap.size rfl).2
  clear hown0 hgrow0 b1 b2 b3 b5 b6 bw2 bw3 bw5 bw6
  go_wp2
  go_loopw [18] (fun i wr => ∃ s : Nat, s ≤ n ∧ i = .int .i64 s ∧ Five wr w6.heap.size (shr l s) ∧ w6.heap.size < wr.heap.size ∧ Below w.heap.size w wr) (fun i _ => n - (intOf i).toNat)
  case atStart => exact ⟨0, Nat.zero_le _, rfl, h5', hlt0, hb0⟩
  case round =>
    rename World => wa
    obtain ⟨s, hs, rfl, hf, hlt, hb⟩ := hrel
    clear h5' hlt0 hb0
    have HV : Hid (Five wa w6.heap.size (shr l s)) := hf
    clear hf
    by_cases hsn : s < n
    · have hsi : (s : Int) < (n : Int) := by omega
      have hh := HK.out.rwho s wa hb
      rw [Nat.mod_eq_of_lt hsn] at hh
      have hq1 := HR.out (s : Int)
      by_cases hneg : hold l (s : Int) = -1
      · have HN : Hid (hold l (s : Int) = -1) := hneg
        rw [hneg] at hh
        clear hneg hq1
        go_wp2_with (go_at_call 11; refine hh.mono ?_; rintro e w7 ⟨rfl, b7⟩; clear hh)
        go_roundw
        case rel => exact ⟨s + 1, by omega, by go_num, by rw [show shr l (s + 1) = shr l s from funext (shr_none HN.out)]; exact HV.out.keep b7 hlt, Nat.lt_of_lt_of_le hlt b7.size, hb.trans (b7.mono hb.size)⟩
        case measure => simp [intOf]; omega
      · obtain ⟨k, hk⟩ : ∃ k : Nat, hold l (s : Int) = k := ⟨(hold l (s : Int)).toNat, by omega⟩
        have hk5 : k < 5 := by omega
        have hki : (k : Int) < 5 := by omega
        have HN : Hid (hold l (s : Int) = (k : Int)) := hk
        rw [hk] at hh
        have hrg := shr_range l s k
        have c0 := (HV.out.at' k hk5).1
        clear hk hneg hq1
        go_wp2_with (go_at_call 11; refine hh.mono ?_; rintro e w7 ⟨rfl, b7⟩; clear hh; have HV7 : Hid (Five w7 w6.heap.size (shr l s)) := HV.out.keep b7 hlt; obtain ⟨c7, f7⟩ := HV7.out.at' k hk5)
        go_roundw
        case rel => exact ⟨s + 1, by omega, by go_num, HV7.out.put k hk5 (shr_up HN.out), by simpa using Nat.lt_of_lt_of_le hlt b7.size, (hb.trans (b7.mono hb.size)).setCell (p := ⟨w6.heap.size, k, none⟩) hs6 _⟩
        case measure => simp [intOf]; omega
    · obtain rfl : s = n := by omega
      have h8 := HK.out.shares wa hb
      have hri : decide (4 < (r : Int)) = false := by simp; omega
      have hrj : (r : Int) < 5 := by omega
      have hgap : gap (had l s r) s = 0 := gap_none (by omega) (had_per l s r) (had_cnt.1 (by unfold shr at hz; omega))
      have HZ : Hid (shr l s r = 0) := hz
      have HG : Hid (gap (had l s r) s = 0) := hgap
      clear hz hgap
      go_wp2_with (first | (go_at_call 13; refine h8.mono ?_; rintro ev w8 ⟨ob, rfl, ho1, ho2, hf8, b8⟩; clear h8; have bw8 := hb.trans (b8.mono hb.size); have HO : Hid (Five w8 ob (shr l s)) := hf8; clear hf8; have HV8 : Hid (Five w8 w6.heap.size (shr l s)) := HV.out.keep b8 hlt; have hlt8 := Nat.lt_of_lt_of_le hlt b8.size; have h9 := HK.out.none w8 bw8) | (go_at_call 10; refine h9.mono ?_; rintro ev w9 ⟨rfl, b9⟩; clear h9; have bw9 := bw8.trans (b9.mono bw8.size); have h10 := fints_five ob w6.heap.size (shr l s) w9 (Nat.lt_of_lt_of_le ho2 b9.size) (Nat.lt_of_lt_of_le hlt8 b9.size) (HO.out.keep b9 ho2) (HV8.out.keep b9 hlt8)) | (go_at_call 14; refine h10.mono ?_; rintro ev w10 ⟨rfl, b10⟩; clear h10; have bw10 := bw9.trans (b10.mono bw9.size); have h11 := HK.out.gap r w10 hr bw10; rw [HG.out, if_pos rfl, fErr_not (by decide)] at h11; have cr : w10.cell? ⟨w6.heap.size, r, none⟩ = some (.int .i64 0) := (((HV8.out.keep b9 hlt8).keep b10 (Nat.lt_of_lt_of_le hlt8 b9.size)).at' r hr).1.trans (by rw [HZ.out])))
      refine wp_loop_rounds 1 ?_
      rw [rounds_succ]
      go_wp2_with (first | (go_at_call 15; refine h11.mono ?_; rintro ev w11 ⟨rfl, b11⟩; clear h11; have bw11 := bw10.trans (b11.mono bw10.size); have h12 := HK.out.err 5 w11 (by decide) bw11) | (go_at_call 10; refine h12.mono ?_; rintro ev w12 ⟨rfl, b12⟩; clear h12))
      go_ret
      exact ⟨rfl, bw11.trans (b12.mono bw11.size)⟩
end Go.Proofs.YtmlkfmiaaaienabDoor

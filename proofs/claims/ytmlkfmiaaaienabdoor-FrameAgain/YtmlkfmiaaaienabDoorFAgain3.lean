/-
  The law FrameAgain: of a frame that is right, and a room that has a share; of any frame.
-/
import Derived.Test.YtmlkfmiaaaienabDoorFAgain2
namespace Go.Proofs.YtmlkfmiaaaienabDoor
open Go.RowKit

set_option maxRecDepth 100000 in
set_option maxHeartbeats 4000000 in
theorem again_some (n t : Nat) (l : List S3) (ao : Option Addr) (m cap : Nat) (r : Nat) (w : World) (hn0 : 1 ≤ n) (hn1 : n ≤ 40) (ht : t ≤ 1000000) (hr : r < 5) (hz : shr l n r ≠ 0) (K : AgainK n t l (.slice ao m cap) w) :
    Calls Tryd.prog 5 #[.int .i64 n, .slice ao m cap, .int .i64 t, .int .i64 r] w fun ev w' => ev = .returned (.bool true) ∧ Below w.heap.size w w' := by
  have HK : Hid (AgainK n t l (.slice ao m cap) w) := K
  clear K
  have bA : Below w.heap.size w (w.alloc (.cells #[.int .i64 1, .int .i64 3, .int .i64 2] 48)) := (Below.refl _ _).alloc (Nat.le_refl _) _
  have h1 := (again_one w _ (Below.refl _ _)).1
  have H2 : Hid (∀ W, Below (w.heap.size + 1) (w.alloc (.cells #[.int .i64 1, .int .i64 3, .int .i64 2] 48)) W → Calls Tryd.prog 12 #[.int .i64 4, .slice (some ⟨w.heap.size, 0, none⟩) 1 1, .int .i64 3] W (fun ev w' => ev = .returned (.tuple #[.int .i64 (-1), .nilIface]) ∧ Below W.heap.size W w')) := fun W hb => (again_one w W hb).2
  have t0 : decide ((t : Int) < 0) = false := by simp
  have t1 : decide (1000000 < (t : Int)) = false := by simp; omega
  have n0 : decide ((n : Int) < 1) = false := by simp; omega
  have n1 : decide (40 < (n : Int)) = false := by simp; omega
  go_enter Tryd.func5, Tryd.ntmps5
  go_wp2_with (first | (go_at_call 12; refine h1.mono ?_; rintro e w1 ⟨rfl, b1⟩; clear h1; have h2 := H2.out w1 (by simpa using b1); clear H2) | (go_at_call 12; refine h2.mono ?_; rintro e w2 ⟨rfl, b2⟩; clear h2; have bw2 := (bA.trans (b1.mono bA.size)).trans (b2.mono (bA.trans (b1.mono bA.size)).size); have h3 := HK.out.who t w2 bw2) | (go_at_call 12; refine h3.mono ?_; rintro e w3 ⟨rfl, b3⟩; clear h3; have bw3 := bw2.trans (b3.mono bw2.size); have h4 := HK.out.who (t + n) w3 bw3; rw [Int.natCast_add, Nat.add_mod_right] at h4) | (go_at_call 12; refine h4.mono ?_; rintro e w4 ⟨rfl, b4⟩; clear h4; have bw4 := bw3.trans (b4.mono bw3.size); have h5 := HK.out.shares w4 bw4) | (go_at_call 13; refine h5.mono ?_; rintro e w5 ⟨ob, rfl, ho1, ho2, hf, b5⟩; clear h5; have bw5 := bw4.trans (b5.mono bw4.size); have HF : Hid (Five w5 ob (shr l n)) := hf; clear hf))
  have hex : ∃ i, had l n r i = true := by
    rcases Classical.em (∃ i, had l n r i = true) with h | h
    · exact h
    · refine absurd ?_ hz
      have : cnt (fun t => hold l (t : Int)) (r : Int) n = 0 := had_cnt.2 fun j _ => by
        cases hj : had l n r j with
        | false => rfl
        | true => exact absurd ⟨j, hj⟩ h
      unfold shr
      omega
  obtain ⟨i0, hi0⟩ := hex
  have g1 := gap_pos (by omega) (had_per l n r) hi0
  have g2 := gap_le (by omega : 0 < n) (had_per l n r)
  have HIN : Hid (∃ k : Nat, (k : Int) < gap (had l n r) n ∧ had l n r (t + k) = true) := gap_in (by omega) (had_per l n r) hi0 t
  clear hi0
  have h6 := HK.out.gap r w5 hr bw5
  obtain ⟨G, hG⟩ : ∃ G : Nat, gap (had l n r) n = G := ⟨(gap (had l n r) n).toNat, by omega⟩
  rw [hG] at g1 g2 HIN
  rw [hG, if_neg (by omega), show fErr 0 = .nilIface from rfl] at h6
  have G1 : decide ((G : Int) < 1) = false := by simp; omega
  have G2 : decide ((n : Int) < (G : Int)) = false := by simp; omega
  have G3 : decide (n < G) = false := by simp; omega
  have hri : decide (4 < (r : Int)) = false := by simp; omega
  have hrj : (r : Int) < 5 := by omega
  have cr : w5.cell? ⟨ob, r, none⟩ = some (.int .i64 (shr l n r)) := HF.out.at r hr
  have rr := shr_range l n r
  obtain ⟨sr, hsr⟩ : ∃ sr, sr = shr l n r := ⟨_, rfl⟩
  rw [← hsr] at hz cr rr
  have hz' : (sr == 0) = false := by simpa using hz
  clear hsr hG
  have hsum := sum_le l n
  have r0 := shr_range l n 0
  have r1 := shr_range l n 1
  have r2 := shr_range l n 2
  have r3 := shr_range l n 3
  have r4 := shr_range l n 4
  obtain ⟨⟨k0, k1, k2, k3, k4⟩, _⟩ := HF.out
  generalize shr l n 0 = s0 at *
  generalize shr l n 1 = s1 at *
  generalize shr l n 2 = s2 at *
  generalize shr l n 3 = s3 at *
  generalize shr l n 4 = s4 at *
  have hs : decide ((n : Int) < s0 + s1 + s2 + s3 + s4) = false := by simp; omega
  have hs' : decide (s0 + s1 + s2 + s3 + s4 ≤ (n : Int)) = true := by simp; omega
  refine wp_loop_rounds 6 ?_
  rw [rounds_succ]
  go_wp2
  rw [rounds_succ]
  go_wp2
  rw [rounds_succ]
  go_wp2
  rw [rounds_succ]
  go_wp2
  rw [rounds_succ]
  go_wp2
  rw [rounds_succ]
  go_wp2_with (go_at_call 15; refine h6.mono ?_; rintro e w6 ⟨rfl, b6⟩; clear h6; have bw6 := bw5.trans (b6.mono bw5.size); have cr6 := (b6.cell (p := ⟨ob, r, none⟩) ho2).trans cr)
  clear k0 k1 k2 k3 k4 cr cr6 HF
  go_loopw [24] (fun i wr => ∃ k : Nat, k ≤ G ∧ i = .int .i64 k ∧ Hid (∀ j, j < k → had l n r (t + j) = false) ∧ Below w.heap.size w wr) (fun i _ => G - (intOf i).toNat)
  case atStart => exact ⟨0, Nat.zero_le _, rfl, fun j hj => by omega, bw6⟩
  case round =>
    obtain ⟨k, hk, rfl, HA, hb⟩ := hrel
    by_cases hkg : k < G
    · have hki : (k : Int) < (G : Int) := by omega
      have h8 := HK.out.who (t + k) wr hb
      rw [Int.natCast_add] at h8
      have hh : had l n r (t + k) = decide (hold l (((t + k) % n : Nat) : Int) = (r : Int)) := rfl
      have hrng : Hid True := trivial
      obtain ⟨q, hq⟩ : ∃ q, q = hold l (((t + k) % n : Nat) : Int) := ⟨_, rfl⟩
      rw [← hq] at h8 hh
      clear hq
      by_cases hqr : q = (r : Int)
      · have hqb : (q == (r : Int)) = true := by simpa using hqr
        clear hh HA
        go_wp2_with (go_at_call 12; refine h8.mono ?_; rintro e w8 ⟨rfl, b8⟩; clear h8)
        go_ret
        exact ⟨rfl, hb.trans (b8.mono hb.size)⟩
      · have hqb : (q == (r : Int)) = false := by simpa using hqr
        have HN : Hid (∀ j, j < k + 1 → had l n r (t + j) = false) := fun j hj => by
          by_cases hjk : j < k
          · exact HA.out j hjk
          · obtain rfl : j = k := by omega
            rw [hh]
            exact decide_eq_false hqr
        clear hh HA
        go_wp2_with (go_at_call 12; refine h8.mono ?_; rintro e w8 ⟨rfl, b8⟩; clear h8)
        go_roundw
        case rel => exact ⟨k + 1, by omega, by go_num, HN.out, hb.trans (b8.mono hb.size)⟩
        case measure => simp [intOf]; omega
    · obtain ⟨k1, hk1, hk2⟩ := HIN.out
      have := HA.out k1 (by omega)
      rw [hk2] at this
      cases this

theorem again_any (n : Int) (l : List S3) (v : Value) (t r : Int) (w : World) (hg : ErrT w) (hl : Sps w v l) :
    Calls Tryd.prog 5 #[.int .i64 n, v, .int .i64 t, .int .i64 r] w fun ev w' => ev = .returned (.bool true) ∧ Below w.heap.size w w' := by
  by_cases ht : t < 0 ∨ 1000000 < t
  · exact again_out n v t r w ht
  by_cases hf : (fchk n l).2 = 0
  · obtain ⟨h1, h2, h3, _, _⟩ := fchk_zero hf
    obtain ⟨m, rfl⟩ : ∃ m : Nat, n = m := ⟨n.toNat, by omega⟩
    obtain ⟨s, rfl⟩ : ∃ s : Nat, t = s := ⟨t.toNat, by omega⟩
    have K := AgainK.mk' m s l v w hl hf
    obtain ⟨ao, cap, rfl⟩ := hl.form
    by_cases hr : r < 0 ∨ 4 < r
    · exact again_r m s l ao _ cap r w (by omega) (by omega) (by omega) hr K
    · obtain ⟨q, rfl⟩ : ∃ q : Nat, r = q := ⟨r.toNat, by omega⟩
      by_cases hz : shr l m q = 0
      · exact again_zero m s l ao _ cap q w (by omega) (by omega) (by omega) (by omega) hg hz K
      · exact again_some m s l ao _ cap q w (by omega) (by omega) (by omega) (by omega) hz K
  · refine again_bad n v t r 0 (fchk n l).2 w (by omega) (by omega) hf fun W hb => ?_
    have := who_any n l v t W (hl.all hb)
    rwa [show whoR n l t = (0, (fchk n l).2) from by unfold whoR; rw [if_neg hf]] at this
end Go.Proofs.YtmlkfmiaaaienabDoor

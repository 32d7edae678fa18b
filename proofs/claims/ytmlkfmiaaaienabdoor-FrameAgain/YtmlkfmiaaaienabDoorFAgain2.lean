/-
  The law FrameAgain: of a frame that is right.
-/
import Derived.Test.YtmlkfmiaaaienabDoorFAgain
namespace Go.Proofs.YtmlkfmiaaaienabDoor
open Go.RowKit

/-- What the law asks of a frame that is right, in any world behind. -/
structure AgainK (n t : Nat) (l : List S3) (v : Value) (w : World) : Prop where
  who : ∀ (k : Nat) W, Below w.heap.size w W → Calls Tryd.prog 12 #[.int .i64 n, v, .int .i64 (k : Int)] W fun ev w' => ev = .returned (.tuple #[.int .i64 (hold l ((k % n : Nat) : Int)), .nilIface]) ∧ Below W.heap.size W w'
  shares : ∀ W, Below w.heap.size w W → Calls Tryd.prog 13 #[.int .i64 n, v] W fun ev w' => ∃ ob, ev = .returned (.tuple #[.slice (some ⟨ob, 0, none⟩) 5 5, .nilIface]) ∧ W.heap.size ≤ ob ∧ ob < w'.heap.size ∧ Five w' ob (shr l n) ∧ Below W.heap.size W w'
  gap : ∀ (r : Nat) W, r < 5 → Below w.heap.size w W → Calls Tryd.prog 15 #[.int .i64 n, v, .int .i64 (r : Int)] W fun ev w' => ev = .returned (.tuple #[.int .i64 (gap (had l n r) n), fErr (if gap (had l n r) n = 0 then 5 else 0)]) ∧ Below W.heap.size W w'
theorem AgainK.mk' (n t : Nat) (l : List S3) (v : Value) (w : World) (hl : Sps w v l) (h : (fchk n l).2 = 0) : AgainK n t l v w where
  who := fun k W hb => by
    have := who_any n l v k W (hl.all hb)
    rw [show whoR n l k = (hold l ((k : Int) % (n : Int)), 0) from by unfold whoR; rw [if_pos h, if_neg (by omega)]] at this
    rw [Int.natCast_emod]
    exact this
  shares := fun W hb => (shares_any n l v W (hl.all hb)).mono fun ev w' ⟨h1, hb1⟩ => by
    rcases h1 with ⟨h1, _⟩ | ⟨_, ob, h1, h2, h3, h4⟩
    · exact absurd h h1
    · exact ⟨ob, h1, h2, h3, by rw [Int.toNat_natCast] at h4; exact h4, hb1⟩
  gap := fun r W hr hb => (gap_any n l v r W (hl.all hb)).mono fun ev w' ⟨h1, hb1⟩ => ⟨by
    rw [h1]
    unfold gapR
    rw [if_pos h, if_neg (by omega), Int.toNat_natCast]
    by_cases hg : Proofs.YtmlkfmiaaaienabDoor.gap (had l n r) n = 0
    · rw [if_pos hg, if_pos hg, hg]
    · rw [if_neg hg, if_neg hg], hb1⟩
theorem sum_le (l : List S3) (n : Nat) : shr l n 0 + shr l n 1 + shr l n 2 + shr l n 3 + shr l n 4 ≤ n := by
  have h := cnt_sum (fun t => hold l (t : Int)) n
  unfold shr
  have e : ∀ r : Nat, ((r : Nat) : Int) = (r : Int) := fun _ => rfl
  show ((cnt (fun t => hold l (t : Int)) 0 n : Nat) : Int) + ((cnt (fun t => hold l (t : Int)) 1 n : Nat) : Int) + ((cnt (fun t => hold l (t : Int)) 2 n : Nat) : Int) + ((cnt (fun t => hold l (t : Int)) 3 n : Nat) : Int) + ((cnt (fun t => hold l (t : Int)) 4 n : Nat) : Int) ≤ (n : Int)
  omega

theorem Five.at {w : World} {b : Nat} {c : Nat → Int} (h : Five w b c) (r : Nat) (hr : r < 5) : w.cell? ⟨b, r, none⟩ = some (.int .i64 (c r)) := by
  obtain ⟨⟨k0, k1, k2, k3, k4⟩, _⟩ := h
  match r, hr with
  | 0, _ => exact k0
  | 1, _ => exact k1
  | 2, _ => exact k2
  | 3, _ => exact k3
  | 4, _ => exact k4
set_option maxRecDepth 100000 in
set_option maxHeartbeats 4000000 in
theorem again_r (n t : Nat) (l : List S3) (ao : Option Addr) (m cap : Nat) (r : Int) (w : World) (hn0 : 1 ≤ n) (hn1 : n ≤ 40) (ht : t ≤ 1000000) (hr : r < 0 ∨ 4 < r) (K : AgainK n t l (.slice ao m cap) w) :
    Calls Tryd.prog 5 #[.int .i64 n, .slice ao m cap, .int .i64 t, .int .i64 r] w fun ev w' => ev = .returned (.bool true) ∧ Below w.heap.size w w' := by
  have HK : Hid (AgainK n t l (.slice ao m cap) w) := K
  clear K
  have bA : Below w.heap.size w (w.alloc (.cells #[.int .i64 1, .int .i64 3, .int .i64 2] 48)) := (Below.refl _ _).alloc (Nat.le_refl _) _
  have h1 := (again_one w _ (Below.refl _ _)).1
  have H2 : Hid (∀ W, Below (w.heap.size + 1) (w.alloc (.cells #[.int .i64 1, .int .i64 3, .int .i64 2] 48)) W → Calls Tryd.prog 12 #[.int .i64 4, .slice (some ⟨w.heap.size, 0, none⟩) 1 1, .int .i64 3] W (fun ev w' => ev = .returned (.tuple #[.int .i64 (-1), .nilIface]) ∧ Below W.heap.size W w')) := fun W hb => (again_one w W hb).2
  have t0 : decide ((t : Int) < 0) = false := by simp
  have t1 : decide (1000000 < (t : Int)) = false := by simp; omega
  have n0 : decide ((n : Int) < 1) = false := by simp; omega
  have n1 : decide (40 < (n : Int)) = false := by simp; omega
  go_enter Tryd.func5, Tryd.ntmps5
  go_wp2_with (first | (go_at_call 12; refine h1.mono ?_; rintro e w1 ⟨rfl, b1⟩; clear h1; have h2 := H2.out w1 (by simpa using b1); clear H2) | (go_at_call 12; refine h2.mono ?_; rintro e w2 ⟨rfl, b2⟩; clear h2; have bw2 := (bA.trans (b1.mono bA.size)).trans (b2.mono (bA.trans (b1.mono bA.size)).size); have h3 := HK.out.who t w2 bw2) | (go_at_call 12; refine h3.mono ?_; rintro e w3 ⟨rfl, b3⟩; clear h3; have bw3 := bw2.trans (b3.mono bw2.size); have h4 := HK.out.who (t + n) w3 bw3; rw [Int.natCast_add, Nat.add_mod_right] at h4) | (go_at_call 12; refine h4.mono ?_; rintro e w4 ⟨rfl, b4⟩; clear h4; have bw4 := bw3.trans (b4.mono bw3.size); have h5 := HK.out.shares w4 bw4) | (go_at_call 13; refine h5.mono ?_; rintro e w5 ⟨ob, rfl, ho1, ho2, hf, b5⟩; clear h5; have bw5 := bw4.trans (b5.mono bw4.size); have HF : Hid (Five w5 ob (shr l n)) := hf; clear hf))
  have hsum := sum_le l n
  have r0 := shr_range l n 0
  have r1 := shr_range l n 1
  have r2 := shr_range l n 2
  have r3 := shr_range l n 3
  have r4 := shr_range l n 4
  obtain ⟨⟨k0, k1, k2, k3, k4⟩, _⟩ := HF.out
  generalize shr l n 0 = s0 at *
  generalize shr l n 1 = s1 at *
  generalize shr l n 2 = s2 at *
  generalize shr l n 3 = s3 at *
  generalize shr l n 4 = s4 at *
  have hs : decide ((n : Int) < s0 + s1 + s2 + s3 + s4) = false := by simp; omega
  have hs' : decide (s0 + s1 + s2 + s3 + s4 ≤ (n : Int)) = true := by simp; omega
  refine wp_loop_rounds 6 ?_
  rw [rounds_succ]
  go_wp2
  rw [rounds_succ]
  go_wp2
  rw [rounds_succ]
  go_wp2
  rw [rounds_succ]
  go_wp2
  rw [rounds_succ]
  go_wp2
  rw [rounds_succ]
  go_wp2
  all_goals go_ret
  all_goals exact ⟨rfl, bw5⟩
set_option maxRecDepth 100000 in
set_option maxHeartbeats 4000000 in
theorem again_zero (n t : Nat) (l : List S3) (ao : Option Addr) (m cap : Nat) (r : Nat) (w : World) (hn0 : 1 ≤ n) (hn1 : n ≤ 40) (ht : t ≤ 1000000) (hr : r < 5) (hg : ErrT w) (hz : shr l n r = 0) (K : AgainK n t l (.slice ao m cap) w) :
    Calls Tryd.prog 5 #[.int .i64 n, .slice ao m cap, .int .i64 t, .int .i64 r] w fun ev w' => ev = .returned (.bool true) ∧ Below w.heap.size w w' := by
  have HK : Hid (AgainK n t l (.slice ao m cap) w) := K
  clear K
  have bA : Below w.heap.size w (w.alloc (.cells #[.int .i64 1, .int .i64 3, .int .i64 2] 48)) := (Below.refl _ _).alloc (Nat.le_refl _) _
  have h1 := (again_one w _ (Below.refl _ _)).1
  have H2 : Hid (∀ W, Below (w.heap.size + 1) (w.alloc (.cells #[.int .i64 1, .int .i64 3, .int .i64 2] 48)) W → Calls Tryd.prog 12 #[.int .i64 4, .slice (some ⟨w.heap.size, 0, none⟩) 1 1, .int .i64 3] W (fun ev w' => ev = .returned (.tuple #[.int .i64 (-1), .nilIface]) ∧ Below W.heap.size W w')) := fun W hb => (again_one w W hb).2
  have t0 : decide ((t : Int) < 0) = false := by simp
  have t1 : decide (1000000 < (t : Int)) = false := by simp; omega
  have n0 : decide ((n : Int) < 1) = false := by simp; omega
  have n1 : decide (40 < (n : Int)) = false := by simp; omega
  go_enter Tryd.func5, Tryd.ntmps5
  go_wp2_with (first | (go_at_call 12; refine h1.mono ?_; rintro e w1 ⟨rfl, b1⟩; clear h1; have h2 := H2.out w1 (by simpa using b1); clear H2) | (go_at_call 12; refine h2.mono ?_; rintro e w2 ⟨rfl, b2⟩; clear h2; have bw2 := (bA.trans (b1.mono bA.size)).trans (b2.mono (bA.trans (b1.mono bA.size)).size); have h3 := HK.out.who t w2 bw2) | (go_at_call 12; refine h3.mono ?_; rintro e w3 ⟨rfl, b3⟩; clear h3; have bw3 := bw2.trans (b3.mono bw2.size); have h4 := HK.out.who (t + n) w3 bw3; rw [Int.natCast_add, Nat.add_mod_right] at h4) | (go_at_call 12; refine h4.mono ?_; rintro e w4 ⟨rfl, b4⟩; clear h4; have bw4 := bw3.trans (b4.mono bw3.size); have h5 := HK.out.shares w4 bw4) | (go_at_call 13; refine h5.mono ?_; rintro e w5 ⟨ob, rfl, ho1, ho2, hf, b5⟩; clear h5; have bw5 := bw4.trans (b5.mono bw4.size); have HF : Hid (Five w5 ob (shr l n)) := hf; clear hf))
  have hgap : gap (had l n r) n = 0 := gap_none (by omega) (had_per l n r) (had_cnt.1 (by unfold shr at hz; omega))
  have hri : decide (4 < (r : Int)) = false := by simp; omega
  have hrj : (r : Int) < 5 := by omega
  have cr : w5.cell? ⟨ob, r, none⟩ = some (.int .i64 0) := by rw [← hz]; exact HF.out.at r hr
  have h6 := HK.out.gap r w5 hr bw5
  rw [hgap, if_pos rfl] at h6
  have HT : Hid (∀ W, Below w.heap.size w W → Calls Tryd.prog 10 #[fErr 5, .int .i64 5] W fun r w' => r = .returned (.bool true) ∧ Below W.heap.size W w') := fun W hb => error_any 5 5 W (hg.all hb)
  clear hgap hg hz
  have hsum := sum_le l n
  have r0 := shr_range l n 0
  have r1 := shr_range l n 1
  have r2 := shr_range l n 2
  have r3 := shr_range l n 3
  have r4 := shr_range l n 4
  obtain ⟨⟨k0, k1, k2, k3, k4⟩, _⟩ := HF.out
  generalize shr l n 0 = s0 at *
  generalize shr l n 1 = s1 at *
  generalize shr l n 2 = s2 at *
  generalize shr l n 3 = s3 at *
  generalize shr l n 4 = s4 at *
  have hs : decide ((n : Int) < s0 + s1 + s2 + s3 + s4) = false := by simp; omega
  have hs' : decide (s0 + s1 + s2 + s3 + s4 ≤ (n : Int)) = true := by simp; omega
  refine wp_loop_rounds 6 ?_
  rw [rounds_succ]
  go_wp2
  rw [rounds_succ]
  go_wp2
  rw [rounds_succ]
  go_wp2
  rw [rounds_succ]
  go_wp2
  rw [rounds_succ]
  go_wp2
  rw [rounds_succ]
  go_wp2_with (first | (go_at_call 15; refine h6.mono ?_; rintro e w6 ⟨rfl, b6⟩; clear h6; have bw6 := bw5.trans (b6.mono bw5.size); have cr6 := (b6.cell (p := ⟨ob, r, none⟩) ho2).trans cr; have h7 := HT.out w6 bw6; clear HT) | (go_at_call 10; refine h7.mono ?_; rintro e w7 ⟨rfl, b7⟩; clear h7))
  go_ret
  exact ⟨rfl, bw6.trans (b7.mono bw6.size)⟩
end Go.Proofs.YtmlkfmiaaaienabDoor

/-
  The law WireOrders: a sample; of any.
-/
import Derived.Test.YtfconbblnmbnpabWOrdQ
namespace Go.Proofs.Ytfconbblnmbnpab
open Go.RowKit

/-- Where a sample is: what was sent last. -/
def smp (n : Nat) : List Int := if n = 0 then [] else [(n : Int) - 1]
theorem smp_zero : smp 0 = [] := rfl
theorem smp_succ (n : Nat) : smp (n + 1) = [(n : Int)] := by unfold smp; rw [if_neg (by omega)]; congr 1; omega
def SSt (w0 wr : World) (B base b : Nat) (n : Nat) : Prop := ∃ v, Ln wr base b 1 1 (smp n) 0 v ∧ Below B w0 wr ∧ B ≤ wr.heap.size
set_option maxRecDepth 100000 in
set_option maxHeartbeats 8000000 in
theorem ord_sample (f t : Int) (l : List Int) (sv : Value) (w : World) (hs : Stp w sv l) (h : wchk f t 1 1 = 0) :
    Calls Try.prog 4 #[wV f t 1 1, sv] w fun ev w' => ev = .returned (.bool true) ∧ Below w.heap.size w w' := by
  have hn1 := wnew_ok 0 1 2 1 (wBox w f t 1 1) ord_one
  have HN : Hid (∀ W, Calls Try.prog 9 #[wV f t 1 1] W fun e w' => ∃ b, e = .returned (.tuple #[.pointer (some ⟨b, 0, none⟩), .nilIface]) ∧ LnC w' b 1 1 0 (.slice none 0 0) ∧ W.heap.size ≤ b ∧ b < w'.heap.size ∧ Below W.heap.size W w') := fun W => wnew_ok f t 1 1 W h
  have hA : Below w.heap.size w (wBox w f t 1 1) := (Below.refl _ _).alloc (Nat.le_refl _) _
  obtain ⟨ao, cap, rfl⟩ := hs.form
  have HS : Hid (Stp w (.slice ao l.length cap) l) := hs
  clear h hs
  unfold wV at hn1 HN ⊢
  go_enter Try.func4, Try.ntmps4
  go_wp2_with (first
    | (go_at_call 9; refine hn1.mono ?_; rintro e w1 ⟨b, rfl, hlc, hb0, hb1, b1⟩; clear hn1; have B1 : Below (w.heap.size + 1) (wBox w f t 1 1) w1 := by simpa using b1
       have hbb : w.heap.size + 1 ≤ b := by simpa using hb0
       have hs5 := ord_send1 hlc hb1
       have HL1 : Hid (Ln w1 w1.heap.size b 2 1 [] 0 (.slice none 0 0)) := new_ln hlc hb1
       clear b1 hb0 hlc)
    | (go_at_call 10; refine hs5.mono ?_; rintro e w2 ⟨v2, rfl, hL2, hT2⟩; clear hs5; have B2 := below_touch B1 (Nat.le_of_lt (Nat.lt_of_le_of_lt hbb hb1)) hbb HL1.out hT2
       have hs6 := ord_send2 hL2
       have HL2 : Hid (Ln w2 w1.heap.size b 2 1 [5] 0 v2) := hL2
       clear hL2)
    | (go_at_call 10; refine hs6.mono ?_; rintro e w3 ⟨rfl, hL3, hT3⟩; clear hs6; have B3 := below_touch B2 (Nat.le_trans (Nat.le_of_lt (Nat.lt_of_le_of_lt hbb hb1)) hT2.size) hbb HL2.out hT3
       have ht := take_queue w1.heap.size b 1 (0 + 1) 5 [] v2 w3 hL3
       have HL3 : Hid (Ln w3 w1.heap.size b 2 1 [5] (0 + 1) v2) := hL3
       clear hL3)
    | (go_at_call 11; refine ht.mono ?_; rintro e w4 ⟨v4, rfl, _, hT4⟩; clear ht; have B4 := below_touch B3 (Nat.le_trans (Nat.le_trans (Nat.le_of_lt (Nat.lt_of_le_of_lt hbb hb1)) hT2.size) hT3.size) hbb HL3.out hT4
       have r0 : w4.cell? ⟨w.heap.size, 0, none⟩ = some (.int .i64 f) := (B4.cell (p := ⟨w.heap.size, 0, none⟩) (by simp)).trans (by simp)
       have r1 : w4.cell? ⟨w.heap.size, 1, none⟩ = some (.int .i64 t) := (B4.cell (p := ⟨w.heap.size, 1, none⟩) (by simp)).trans (by simp)
       have r2 : w4.cell? ⟨w.heap.size, 2, none⟩ = some (.int .i64 1) := (B4.cell (p := ⟨w.heap.size, 2, none⟩) (by simp)).trans (by simp)
       have r3 : w4.cell? ⟨w.heap.size, 3, none⟩ = some (.int .i64 1) := (B4.cell (p := ⟨w.heap.size, 3, none⟩) (by simp)).trans (by simp)
       have hn2 := HN.out w4)
    | (go_at_call 9; refine hn2.mono ?_; rintro e w5 ⟨c, rfl, hlc5, hc0, hc1, b5⟩; clear hn2; have hlt4 := wlt r0; have B5 := B4.trans (b5.mono (by omega))
       have HQ : Hid (SSt (wBox w f t 1 1) w5 (w.heap.size + 1) w5.heap.size c 0) := ⟨_, new_ln hlc5 hc1, B5, by omega⟩
       clear hlc5 b5 r0 r1 r2 r3))
  have hcB : w.heap.size + 1 ≤ c := by omega
  clear HL1 HL2 HL3 hT2 hT3 hT4 B1 B2 B3 B4 B5 HN hbb hb1
  go_loopw [15, 16, 17, 18, 19] (fun sn sl sx sa si wr => ∃ i n : Nat, i ≤ l.length ∧ i ≤ 200 ∧ n ≤ i ∧ sn = .int .i64 n ∧ sl = .int .i64 0 ∧ sx = .int .i64 0 ∧ sa = .int .i64 ((n : Int) - 1) ∧ si = .int .i64 i ∧ SSt (wBox w f t 1 1) wr (w.heap.size + 1) w5.heap.size c n) (fun _ _ _ _ si _ => 200 - (intOf si).toNat)
  case atStart => exact ⟨0, 0, Nat.zero_le _, Nat.zero_le _, Nat.le_refl _, rfl, rfl, rfl, rfl, rfl, HQ.out⟩
  case round =>
    obtain ⟨i, n, hil, hi2, hni, rfl, rfl, rfl, rfl, rfl, v, hL, hB, hBs⟩ := hrel
    have HL : Hid (Ln wr w5.heap.size c 1 1 (smp n) 0 v) := hL
    have r2 : wr.cell? ⟨w.heap.size, 2, none⟩ = some (.int .i64 1) := (hB.cell (p := ⟨w.heap.size, 2, none⟩) (by simp)).trans (by simp)
    have r3 : wr.cell? ⟨w.heap.size, 3, none⟩ = some (.int .i64 1) := (hB.cell (p := ⟨w.heap.size, 3, none⟩) (by simp)).trans (by simp)
    have hBw : Below w.heap.size w wr := hA.trans (hB.mono (Nat.le_succ _))
    by_cases hlt : i < l.length
    · have hlti : (i : Int) < (l.length : Int) := by omega
      by_cases h200 : i < 200
      · have h200i : (i : Int) < 200 := by omega
        obtain ⟨sb, so, x, rfl, hx, _⟩ := HS.out.at hBw hlt
        by_cases hx0 : x < 0
        · cases n with
          | zero =>
            obtain ⟨va, vc, rfl⟩ : ∃ va vc, v = .slice va 0 vc := by
              rcases HL.out.form with ⟨rfl, _⟩ | ⟨g, cap', rfl⟩
              · exact ⟨_, _, rfl⟩
              · exact ⟨_, _, rfl⟩
            have hk := take_none c 1 1 0 va vc wr HL.out.c
            have hl0 : decide ((0 : Int) ≤ ((0 : Nat) : Int) - 1) = false := by decide
            clear hL
            go_wp2_with (go_at_call 11; refine hk.mono ?_; rintro e w2 ⟨rfl, rfl⟩; clear hk)
            go_roundw
            case rel => exact ⟨i + 1, 0, by omega, by omega, by omega, rfl, rfl, rfl, rfl, by go_num, _, HL.out, hB, hBs⟩
            case measure => simp [intOf]; omega
          | succ n =>
            obtain ⟨g, cap', rfl⟩ : ∃ g cap', v = .slice (some ⟨g, 0, none⟩) 1 cap' := by
              have h0 := HL.out
              rw [smp_succ] at h0
              rcases h0.form with ⟨_, h1⟩ | ⟨g, cap', h1⟩
              · cases h1
              · exact ⟨g, cap', h1⟩
            have hg : wr.cell? ⟨g, 0, none⟩ = some (.int .i64 n) := by
              have h0 := HL.out.row
              rw [smp_succ] at h0
              exact (own_cap h0).2.2.2.2.1 0 _ rfl
            have hk := take_sample c 1 0 g 1 cap' n wr HL.out.c (by omega) hg
            have he : ((n : Int) != ((n + 1 : Nat) : Int) - 1) = false := by simp
            have he2 : ((n : Int) != (n : Int) + 1 - 1) = false := by simp
            clear hL hg
            go_wp2_with (go_at_call 11; refine hk.mono ?_; rintro e w2 ⟨rfl, rfl⟩; clear hk)
            go_roundw
            case rel => exact ⟨i + 1, n + 1, by omega, by omega, by omega, by go_num, rfl, rfl, by go_num, by go_num, _, HL.out, hB, hBs⟩
            case measure => simp [intOf]; omega
        · have hx0' : decide (x < 0) = false := by simpa using hx0
          have hk := send_sample w5.heap.size c (smp n) 0 v n wr (by omega) (by omega) hL
          rw [← smp_succ] at hk
          clear hL
          have HH : Hid (∀ W v2, Ln W w5.heap.size c 1 1 (smp (n + 1)) 0 v2 → Calls Try.prog 13 #[.pointer (some ⟨c, 0, none⟩)] W fun e w' => ∃ ao cap, e = .returned (.agg #[.slice ao 1 cap, .int .i64 0]) ∧ Below W.heap.size W w') := fun W v2 h => by
            rw [smp_succ] at h
            have := held_any w5.heap.size c 1 1 _ _ v2 W (by simp) h
            exact this.mono fun e w' ⟨ao, cap, h1, _, h2⟩ => ⟨ao, cap, h1, h2⟩
          go_wp2_with (first
            | (go_at_call 10; refine hk.mono ?_; rintro e w2 ⟨v2, rfl, hLn, hT⟩; clear hk
               have B2 := below_touch hB hBs hcB HL.out hT
               have HLn : Hid (Ln w2 w5.heap.size c 1 1 (smp (n + 1)) 0 v2) := hLn
               have hh := HH.out w2 v2 hLn
               clear hLn HH)
            | (go_at_call 13; refine hh.mono ?_; rintro e w3 ⟨ao, cap', rfl, b3⟩; clear hh
               have B3 := B2.trans (b3.mono (Nat.le_trans hBs hT.size))
               replace r2 : w3.cell? ⟨w.heap.size, 2, none⟩ = some (.int .i64 1) := (B3.cell (p := ⟨w.heap.size, 2, none⟩) (by simp)).trans (by simp)
               replace r3 : w3.cell? ⟨w.heap.size, 3, none⟩ = some (.int .i64 1) := (B3.cell (p := ⟨w.heap.size, 3, none⟩) (by simp)).trans (by simp)
               have hw3 : w.heap.size < w3.heap.size := wlt r2))
          go_roundw
          case rel => exact ⟨i + 1, n + 1, by omega, by omega, by omega, by go_num, rfl, rfl, by go_num, by go_num, v2, (HLn.out.below b3).below ((Below.refl _ _).alloc (Nat.le_refl _) _), B3.alloc (by omega) _, by simp; omega⟩
          case measure => simp [intOf]; omega
      · have h200i : decide ((i : Int) < 200) = false := by simp; omega
        clear hL
        go_wp2
        go_ret
        exact ⟨rfl, hBw⟩
    · have hlti : decide ((i : Int) < (l.length : Int)) = false := by simp; omega
      have hltn : decide (i < l.length) = false := by simp; omega
      clear hL
      go_wp2
      go_ret
      exact ⟨rfl, hBw⟩
theorem ord_any (f t k d : Int) (l : List Int) (sv : Value) (w : World) (hs : Stp w sv l) :
    Calls Try.prog 4 #[wV f t k d, sv] w fun ev w' => ev = .returned (.bool true) ∧ Below w.heap.size w w' := by
  by_cases h : wchk f t k d = 0
  · rcases wchk_kind h with ⟨rfl, rfl⟩ | ⟨rfl, h1, h6⟩
    · exact ord_sample f t l sv w hs h
    · exact ord_queue f t d l sv w hs h h1 h6
  · exact ord_bad f t k d sv w h
end Go.Proofs.Ytfconbblnmbnpab

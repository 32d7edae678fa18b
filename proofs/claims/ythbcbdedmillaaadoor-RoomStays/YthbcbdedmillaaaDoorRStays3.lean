/-
  The law RoomStays: the walk, of one that has failed.
-/
import Derived.Test.YthbcbdedmillaaaDoorRStays2
import Derived.Deep.QuietTactic
import Derived.BigQuiet
import Derived.WalkSmall
namespace Go.Proofs.YthbcbdedmillaaaDoor
open Go.RowKit

set_option maxRecDepth 100000 in
set_option maxHeartbeats 8000000 in
theorem rstays_failed (l : List O3) (b off cap k : Nat) (c : Nat → Int) (got other sd oa : Int) (is : Bool) (w : World) (hf : Forms w) (hl : Ops w (.slice (some ⟨b, off, none⟩) l.length cap) l) (hk : k < l.length) (hb : b < w.heap.size)
    (hoa : w.cell? ⟨b, off + k * 3, none⟩ = some (.int .i64 oa)) (hs0 : -1 ≤ sd) (hs1 : sd ≤ 999)
    (hB : ∀ W, Forms W → Ops W (.slice (some ⟨b, off, none⟩) l.length cap) l → Calls Tryd.prog 17 #[.slice (some ⟨b, off, none⟩) l.length cap, .agg #[.int .i64 k, .int .i64 (c 0), .int .i64 (c 1), .int .i64 (c 2), .int .i64 (c 3), .int .i64 (c 4), .int .i64 (c 5), .bool true], .int .i64 got, .bool is] W fun ev w' => ev = .returned (.tuple #[.agg #[.int .i64 k, .int .i64 (c 0), .int .i64 (c 1), .int .i64 (c 2), .int .i64 (c 3), .int .i64 (c 4), .int .i64 (c 5), .bool true], .int .i64 sd, .nilIface]) ∧ Below W.heap.size W w')
    (hC : ∀ W, Forms W → Ops W (.slice (some ⟨b, off, none⟩) l.length cap) l → Calls Tryd.prog 15 #[.slice (some ⟨b, off, none⟩) l.length cap, .agg #[.int .i64 k, .int .i64 (c 0), .int .i64 (c 1), .int .i64 (c 2), .int .i64 (c 3), .int .i64 (c 4), .int .i64 (c 5), .bool true]] W fun ev w' => ev = .returned .nilIface ∧ Below W.heap.size W w')
    (hD : (oa == 9) = false → ∀ W, Forms W → Ops W (.slice (some ⟨b, off, none⟩) l.length cap) l → Calls Tryd.prog 17 #[.slice (some ⟨b, off, none⟩) l.length cap, .agg #[.int .i64 k, .int .i64 (c 0), .int .i64 (c 1), .int .i64 (c 2), .int .i64 (c 3), .int .i64 (c 4), .int .i64 (c 5), .bool true], .int .i64 other, .bool (decide (0 ≤ other) && decide (other < 1000))] W fun ev w' => ev = .returned (.tuple #[.agg #[.int .i64 k, .int .i64 (c 0), .int .i64 (c 1), .int .i64 (c 2), .int .i64 (c 3), .int .i64 (c 4), .int .i64 (c 5), .bool true], .int .i64 sd, .nilIface]) ∧ Below W.heap.size W w') :
    Calls Tryd.prog 6 #[.slice (some ⟨b, off, none⟩) l.length cap, .agg #[.int .i64 k, .int .i64 (c 0), .int .i64 (c 1), .int .i64 (c 2), .int .i64 (c 3), .int .i64 (c 4), .int .i64 (c 5), .bool true], .int .i64 got, .bool is, .int .i64 other] w fun ev w' => ev = .returned (.bool true) ∧ Below w.heap.size w w' := by
  have hA := fun W v hf hl => step_first W v hf hl
  have HF : Hid (Forms w) := hf
  have HL : Hid (Ops w (.slice (some ⟨b, off, none⟩) l.length cap) l) := hl
  have hki : (k : Int) < (l.length : Int) := by omega
  have g1 : decide (sd < -1) = false := by simp; omega
  have g2 : decide (1000 ≤ sd) = false := by simp; omega
  have g3 : decide (l.length ≤ k) = false := by simp; omega
  have g4 : decide ((k : Int) < 0) = false := by simp
  have hgd := guardSt
  have hnq := neq_st
  have heq := eql_st
  have HD : Hid ((oa == 9) = false → ∀ W, Forms W → Ops W (.slice (some ⟨b, off, none⟩) l.length cap) l → Calls Tryd.prog 17 #[.slice (some ⟨b, off, none⟩) l.length cap, .agg #[.int .i64 k, .int .i64 (c 0), .int .i64 (c 1), .int .i64 (c 2), .int .i64 (c 3), .int .i64 (c 4), .int .i64 (c 5), .bool true], .int .i64 other, .bool (decide (0 ≤ other) && decide (other < 1000))] W fun ev w' => ev = .returned (.tuple #[.agg #[.int .i64 k, .int .i64 (c 0), .int .i64 (c 1), .int .i64 (c 2), .int .i64 (c 3), .int .i64 (c 4), .int .i64 (c 5), .bool true], .int .i64 sd, .nilIface]) ∧ Below W.heap.size W w') := hD
  clear hf hl hD
  go_enter Tryd.func6, Tryd.ntmps6
  go_wp2_with (first
    | (go_at_call 17; refine (hA _ _ ((HF.out.alloc _).alloc _) (ops_one' _ _ _ _ _ _ (by simp))).mono ?_; rintro ev w1 ⟨rfl, b1⟩; clear hA; have bw1 : Below w.heap.size w w1 := (((Below.refl _ w).alloc (Nat.le_refl _) _).alloc (by simp) _).trans (b1.mono (by simp <;> omega)); have hs1 : SBox w1 w.heap.size ⟨k, c, true⟩ := ((SBox.new w ⟨k, c, true⟩ _).keep (B := w.heap.size + 1) ((Below.refl _ _).alloc (by simp) _) (Nat.lt_succ_self _)).keep b1 (by simp <;> omega); have hsz1 : w.heap.size + 1 < w1.heap.size := (by have h := b1.size; simp at h; omega); clear b1; have hlt1 : w.heap.size < w1.heap.size := Nat.lt_of_succ_lt hsz1; have SB1 : Hid (SBox w1 w.heap.size ⟨k, c, true⟩) := hs1; obtain ⟨y0, y1, y2, y3, y4, y5, y6, y7⟩ := hs1)
    | (go_at_call 17; refine (hB _ ((HF.out.all bw1).alloc _) ((HL.out.all bw1).all ((Below.refl _ _).alloc (Nat.le_refl _) _))).mono ?_; rintro ev w2 ⟨rfl, b2⟩; clear hB y0 y1 y2 y3 y4 y5 y6 y7; have bw2 : Below w.heap.size w w2 := (bw1.alloc (by have := bw1.size; omega) _).trans (b2.mono (by have := bw1.size; simp; omega)); have hs2 : SBox w2 w.heap.size ⟨k, c, true⟩ := (SB1.out.keep (B := w1.heap.size) ((Below.refl _ _).alloc (Nat.le_refl _) _) hlt1).keep b2 (by simp <;> omega); have hlt2 : w.heap.size < w2.heap.size := (by have h := b2.size; simp at h; omega); clear b2; have SB2 : Hid (SBox w2 w.heap.size ⟨k, c, true⟩) := hs2; obtain ⟨y0, y1, y2, y3, y4, y5, y6, y7⟩ := hs2)
    | (go_at_call 15; refine (hC _ ((HF.out.all bw2).alloc _) ((HL.out.all bw2).all ((Below.refl _ _).alloc (Nat.le_refl _) _))).mono ?_; rintro ev w3 ⟨rfl, b3⟩; clear hC y0 y1 y2 y3 y4 y5 y6 y7; have bw3 : Below w.heap.size w w3 := (bw2.alloc (by have := bw2.size; omega) _).trans (b3.mono (by have := bw2.size; simp; omega)); have hs3 : SBox w3 w.heap.size ⟨k, c, true⟩ := (SB2.out.keep (B := w2.heap.size) ((Below.refl _ _).alloc (Nat.le_refl _) _) hlt2).keep b3 (by simp <;> omega); have hx3 : SBox w3 w2.heap.size ⟨k, c, true⟩ := (SBox.new w2 ⟨k, c, true⟩ _).keep b3 (by simp); have hltx : w2.heap.size < w3.heap.size := (by have h := b3.size; simp at h; omega); have hlt3 : w.heap.size < w3.heap.size := Nat.lt_trans hlt2 hltx; clear b3; have SB3 : Hid (SBox w3 w.heap.size ⟨k, c, true⟩) := hs3; have SX3 : Hid (SBox w3 w2.heap.size ⟨k, c, true⟩) := hx3; obtain ⟨y0, y1, y2, y3, y4, y5, y6, y7⟩ := hs3; obtain ⟨x0, x1, x2, x3, x4, x5, x6, x7⟩ := hx3))
  have hoa3 : Hid (w3.cell? ⟨b, off + k * 3, none⟩ = some (.int .i64 oa)) := (bw3.cell (p := ⟨b, off + k * 3, none⟩) hb).trans hoa
  have hb3 : b < w3.heap.size := Nat.lt_trans hb hlt3
  have HC3 : Hid (∀ wr, Below w3.heap.size w3 wr → (∀ i, i < 6 → wr.cell? ⟨w2.heap.size, 1 + i, none⟩ = some (.int .i64 (c i))) ∧ (∀ i, i < 6 → wr.cell? ⟨w.heap.size, 1 + i, none⟩ = some (.int .i64 (c i)))) := fun wr hbr => by
    have q1 : ∀ o, wr.cell? ⟨w2.heap.size, o, none⟩ = w3.cell? ⟨w2.heap.size, o, none⟩ := fun o => hbr.cell (p := ⟨w2.heap.size, o, none⟩) hltx
    have q2 : ∀ o, wr.cell? ⟨w.heap.size, o, none⟩ = w3.cell? ⟨w.heap.size, o, none⟩ := fun o => hbr.cell (p := ⟨w.heap.size, o, none⟩) hlt3
    exact ⟨six.2 ⟨(q1 _).trans x1, (q1 _).trans x2, (q1 _).trans x3, (q1 _).trans x4, (q1 _).trans x5, (q1 _).trans x6⟩, six.2 ⟨(q2 _).trans y1, (q2 _).trans y2, (q2 _).trans y3, (q2 _).trans y4, (q2 _).trans y5, (q2 _).trans y6⟩⟩
  clear y0 y1 y2 y3 y4 y5 y6 y7 x0 x1 x2 x3 x4 x5 x6 x7 hoa hb
  go_loopw [18, 19] (fun m i wr => ∃ mm kk : Nat, kk ≤ 6 ∧ m = .int .i64 mm ∧ i = .int .i64 kk ∧ mm = 0 ∧ (0 ≤ sd → mm = 0) ∧ Below w3.heap.size w3 wr) (fun _ i _ => 6 - (intOf i).toNat)
  case atStart => exact ⟨0, 0, by omega, rfl, rfl, rfl, fun _ => rfl, Below.refl _ _⟩
  case round =>
    obtain ⟨mm, kk, hkk, rfl, rfl, hmm, hmz, hbr⟩ := hrel
    subst hmm
    clear hmz
    by_cases hk6 : kk < 6
    · have e1 := (HC3.out wr hbr).1 kk hk6
      have e2 := (HC3.out wr hbr).2 kk hk6
      have hk6i : (kk : Int) < 6 := by omega
      go_wp2
      go_quiet (fail)
      go_wp2
      go_roundw
      case rel => exact ⟨0, kk + 1, by omega, rfl, by go_num, rfl, fun _ => rfl, below_drewN hbr _⟩
      case measure => simp [intOf]; omega
    · have hoar : wr.cell? ⟨b, off + k * 3, none⟩ = some (.int .i64 oa) := (hbr.cell (p := ⟨b, off + k * 3, none⟩) hb3).trans hoa3.out
      have bwr : Below w.heap.size w wr := bw3.trans (hbr.mono (by omega))
      have hsr := SB3.out.keep hbr hlt3
      have SXr : Hid (SBox wr w2.heap.size ⟨k, c, true⟩) := SX3.out.keep hbr hltx
      have hltr : w2.heap.size < wr.heap.size := Nat.lt_of_lt_of_le hltx hbr.size
      obtain ⟨y0, y1, y2, y3, y4, y5, y6, y7⟩ := hsr
      by_cases h9 : oa = 9
      · subst h9
        by_cases hsd : 0 ≤ sd
        · skip
          go_wp2
          go_ret
          exact ⟨rfl, bwr⟩
        · have hsd' : decide (0 ≤ sd) = false := by simpa using hsd
          go_wp2
          go_ret
          exact ⟨rfl, bwr⟩
      · have h9' : (oa == 9) = false := by simpa using h9
        have hst := HD.out h9' wr (HF.out.all bwr) (HL.out.all bwr)
        by_cases hsd : 0 ≤ sd
        · skip
          by_cases ho : 0 ≤ other
          · rw [show decide (0 ≤ other) = true by simpa using ho, Bool.true_and] at hst
            go_wp2_with (go_at_call 17; refine hst.mono ?_; rintro ev w4 ⟨rfl, b4⟩; clear hst y0 y1 y2 y3 y4 y5 y6 y7; have bw4 := bwr.trans (b4.mono bwr.size); have hx4 := SXr.out.keep b4 hltr; have hlt4 : w2.heap.size < w4.heap.size := Nat.lt_of_lt_of_le hltr b4.size; obtain ⟨x0, x1, x2, x3, x4, x5, x6, x7⟩ := hx4)
            go_ret
            exact ⟨rfl, bw4.alloc (by have := bw4.size; omega) _⟩
          · have ho' : decide (0 ≤ other) = false := by simpa using ho
            rw [ho', Bool.false_and] at hst
            go_wp2_with (go_at_call 17; refine hst.mono ?_; rintro ev w4 ⟨rfl, b4⟩; clear hst y0 y1 y2 y3 y4 y5 y6 y7; have bw4 := bwr.trans (b4.mono bwr.size); have hx4 := SXr.out.keep b4 hltr; have hlt4 : w2.heap.size < w4.heap.size := Nat.lt_of_lt_of_le hltr b4.size; obtain ⟨x0, x1, x2, x3, x4, x5, x6, x7⟩ := hx4)
            go_ret
            exact ⟨rfl, bw4.alloc (by have := bw4.size; omega) _⟩
        · have hsd' : decide (0 ≤ sd) = false := by simpa using hsd
          by_cases ho : 0 ≤ other
          · rw [show decide (0 ≤ other) = true by simpa using ho, Bool.true_and] at hst
            go_wp2_with (go_at_call 17; refine hst.mono ?_; rintro ev w4 ⟨rfl, b4⟩; clear hst y0 y1 y2 y3 y4 y5 y6 y7; have bw4 := bwr.trans (b4.mono bwr.size); have hx4 := SXr.out.keep b4 hltr; have hlt4 : w2.heap.size < w4.heap.size := Nat.lt_of_lt_of_le hltr b4.size; obtain ⟨x0, x1, x2, x3, x4, x5, x6, x7⟩ := hx4)
            go_ret
            exact ⟨rfl, bw4.alloc (by have := bw4.size; omega) _⟩
          · have ho' : decide (0 ≤ other) = false := by simpa using ho
            rw [ho', Bool.false_and] at hst
            go_wp2_with (go_at_call 17; refine hst.mono ?_; rintro ev w4 ⟨rfl, b4⟩; clear hst y0 y1 y2 y3 y4 y5 y6 y7; have bw4 := bwr.trans (b4.mono bwr.size); have hx4 := SXr.out.keep b4 hltr; have hlt4 : w2.heap.size < w4.heap.size := Nat.lt_of_lt_of_le hltr b4.size; obtain ⟨x0, x1, x2, x3, x4, x5, x6, x7⟩ := hx4)
            go_ret
            exact ⟨rfl, bw4.alloc (by have := bw4.size; omega) _⟩
end Go.Proofs.YthbcbdedmillaaaDoor

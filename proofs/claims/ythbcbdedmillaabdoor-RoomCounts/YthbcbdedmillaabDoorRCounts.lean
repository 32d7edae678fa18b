/-
  The law RoomCounts: the walk.
-/
import Derived.Test.YthbcbdedmillaabDoorRLaw
namespace Go.Proofs.YthbcbdedmillaabDoor
open Go.RowKit

/-- The cells of the room that counts. -/
def cAt (q b : Int) : Nat → Int := fun i => if i = 0 then q else if i = 1 then b else 0
theorem gchk_at (o : O3) (q b : Int) (hc : (chk [o]).2 = 0) (h0 : 0 ≤ q ∧ q ≤ 999) (h1 : 0 ≤ b ∧ b ≤ 999) : gchk [o] ⟨0, cAt q b, false⟩ 0 false = 0 := by
  have hs : stOk ⟨0, cAt q b, false⟩ 1 = true := by
    rw [stOk_iff]
    refine ⟨by simp, by simp, six.2 ?_⟩
    simp [cAt, h0, h1]
  have hr : rchk [o] ⟨0, cAt q b, false⟩ = 0 := by
    unfold rchk
    rw [if_pos hc]
    exact if_pos hs
  unfold gchk
  rw [if_pos hr]
  simp
theorem step_add (q b : Int) (h0 : 0 ≤ q ∧ q ≤ 999) (h1 : 0 ≤ b ∧ b ≤ 999) (W : World) (v : Value) (hf : Forms W) (hl : Ops W v [(3, 0, 1)]) :
    Calls Tryd.prog 5 #[v, .agg #[.int .i64 0, .int .i64 q, .int .i64 b, .int .i64 0, .int .i64 0, .int .i64 0, .int .i64 0, .bool false], .int .i64 0, .bool false] W fun ev w' => ev = .returned (.tuple #[.agg #[.int .i64 0, .int .i64 ((q + b) % 1000), .int .i64 b, .int .i64 0, .int .i64 0, .int .i64 0, .int .i64 0, .bool false], .int .i64 (-1), .nilIface]) ∧ Below W.heap.size W w' := by
  refine (rstep_any [(3, 0, 1)] v ⟨0, cAt q b, false⟩ 0 false W hf hl).mono fun ev w' ⟨he, hb⟩ => ⟨?_, hb⟩
  rw [he]
  have hg := gchk_at (3, 0, 1) q b (by decide) h0 h1
  rw [show stepT [(3, 0, 1)] ⟨0, cAt q b, false⟩ 0 false = _ from if_pos hg]
  simp [stepF, sendF, sentF, nextF, cellsF, upd, cAt, stV]
theorem step_send (q b : Int) (h0 : 0 ≤ q ∧ q ≤ 999) (h1 : 0 ≤ b ∧ b ≤ 999) (W : World) (v : Value) (hf : Forms W) (hl : Ops W v [(8, 0, 0)]) :
    Calls Tryd.prog 5 #[v, .agg #[.int .i64 0, .int .i64 q, .int .i64 b, .int .i64 0, .int .i64 0, .int .i64 0, .int .i64 0, .bool false], .int .i64 0, .bool false] W fun ev w' => ev = .returned (.tuple #[.agg #[.int .i64 0, .int .i64 q, .int .i64 b, .int .i64 0, .int .i64 0, .int .i64 0, .int .i64 0, .bool false], .int .i64 q, .nilIface]) ∧ Below W.heap.size W w' := by
  refine (rstep_any [(8, 0, 0)] v ⟨0, cAt q b, false⟩ 0 false W hf hl).mono fun ev w' ⟨he, hb⟩ => ⟨?_, hb⟩
  rw [he]
  have hg := gchk_at (8, 0, 0) q b (by decide) h0 h1
  rw [show stepT [(8, 0, 0)] ⟨0, cAt q b, false⟩ 0 false = _ from if_pos hg]
  simp [stepF, sendF, sentF, nextF, cellsF, cAt, stV]

set_option maxRecDepth 100000 in
set_option maxHeartbeats 4000000 in
theorem counts_out (n b : Int) (w : World) (h : n < 0 ∨ 200 < n ∨ b < 0 ∨ 999 < b) :
    Calls Tryd.prog 3 #[.int .i64 n, .int .i64 b] w fun ev w' => ev = .returned (.bool true) ∧ Below w.heap.size w w' := by
  have hnew := fun W => new_any W
  unfold stV at hnew
  have hgd := guardSt
  have heq := eql_st
  by_cases h1 : n < 0
  · go_enter Tryd.func3, Tryd.ntmps3
    go_wp2_with (go_at_call 4; refine (hnew _).mono ?_; rintro e w1 ⟨rfl, b1⟩; clear hnew)
    go_ret
    exact ⟨rfl, b1⟩
  have h1' : decide (n < 0) = false := by simpa using h1
  by_cases h2 : 200 < n
  · go_enter Tryd.func3, Tryd.ntmps3
    go_wp2_with (go_at_call 4; refine (hnew _).mono ?_; rintro e w1 ⟨rfl, b1⟩; clear hnew)
    go_ret
    exact ⟨rfl, b1⟩
  have h2' : decide (200 < n) = false := by simpa using h2
  by_cases h3 : b < 0
  · go_enter Tryd.func3, Tryd.ntmps3
    go_wp2_with (go_at_call 4; refine (hnew _).mono ?_; rintro e w1 ⟨rfl, b1⟩; clear hnew)
    go_ret
    exact ⟨rfl, b1⟩
  have h3' : decide (b < 0) = false := by simpa using h3
  have h4 : 999 < b := by omega
  go_enter Tryd.func3, Tryd.ntmps3
  go_wp2_with (go_at_call 4; refine (hnew _).mono ?_; rintro e w1 ⟨rfl, b1⟩; clear hnew)
  go_ret
  exact ⟨rfl, b1⟩

/-- The room that counts lies in a box. -/
def CB (w : World) (bl : Nat) (q b : Int) : Prop := (w.cell? ⟨bl, 0, none⟩ = some (.int .i64 0) ∧ w.cell? ⟨bl, 1, none⟩ = some (.int .i64 q) ∧ w.cell? ⟨bl, 2, none⟩ = some (.int .i64 b) ∧ w.cell? ⟨bl, 3, none⟩ = some (.int .i64 0) ∧ w.cell? ⟨bl, 4, none⟩ = some (.int .i64 0) ∧ w.cell? ⟨bl, 5, none⟩ = some (.int .i64 0) ∧ w.cell? ⟨bl, 6, none⟩ = some (.int .i64 0) ∧ w.cell? ⟨bl, 7, none⟩ = some (.bool false)) ∧ (w.frozen? ⟨bl, 0, none⟩ = false ∧ w.frozen? ⟨bl, 1, none⟩ = false ∧ w.frozen? ⟨bl, 2, none⟩ = false ∧ w.frozen? ⟨bl, 3, none⟩ = false ∧ w.frozen? ⟨bl, 4, none⟩ = false ∧ w.frozen? ⟨bl, 5, none⟩ = false ∧ w.frozen? ⟨bl, 6, none⟩ = false ∧ w.frozen? ⟨bl, 7, none⟩ = false)
theorem CB.keep {w w' : World} {bl B : Nat} {q b : Int} (h : CB w bl q b) (hb : Below B w w') (hlt : bl < B) : CB w' bl q b := by
  have hc : ∀ o, w'.cell? ⟨bl, o, none⟩ = w.cell? ⟨bl, o, none⟩ := fun o => hb.cell (p := ⟨bl, o, none⟩) hlt
  have hf : ∀ o, w'.frozen? ⟨bl, o, none⟩ = w.frozen? ⟨bl, o, none⟩ := fun o => hb.frozen (p := ⟨bl, o, none⟩) hlt
  unfold CB
  simp only [hc, hf]
  exact h
theorem CB.new (w : World) (b : Int) (T : TypeId) : CB (w.alloc (.cells #[.int .i64 0, .int .i64 0, .int .i64 b, .int .i64 0, .int .i64 0, .int .i64 0, .int .i64 0, .bool false] T)) w.heap.size 0 b := by
  unfold CB
  refine ⟨⟨?_, ?_, ?_, ?_, ?_, ?_, ?_, ?_⟩, ?_, ?_, ?_, ?_, ?_, ?_, ?_, ?_⟩ <;> simp
theorem CB.put {w : World} {bl : Nat} {q b : Int} (h : CB w bl q b) (q' : Int) : CB ((((((((w.setCell ⟨bl, 0, none⟩ (.int .i64 0)).setCell ⟨bl, 1, none⟩ (.int .i64 q')).setCell ⟨bl, 2, none⟩ (.int .i64 b)).setCell ⟨bl, 3, none⟩ (.int .i64 0)).setCell ⟨bl, 4, none⟩ (.int .i64 0)).setCell ⟨bl, 5, none⟩ (.int .i64 0)).setCell ⟨bl, 6, none⟩ (.int .i64 0)).setCell ⟨bl, 7, none⟩ (.bool false)) bl q' b := by
  obtain ⟨⟨k0, k1, k2, k3, k4, k5, k6, k7⟩, j0, j1, j2, j3, j4, j5, j6, j7⟩ := h
  unfold CB
  refine ⟨⟨?_, ?_, ?_, ?_, ?_, ?_, ?_, ?_⟩, ?_, ?_, ?_, ?_, ?_, ?_, ?_, ?_⟩ <;> simp [go_sem, k0, k1, k2, k3, k4, k5, k6, k7, j0, j1, j2, j3, j4, j5, j6, j7]
theorem count_next (j : Nat) (b : Int) : (((j : Int) * b) % 1000 + b) % 1000 = (((j + 1 : Nat) : Int) * b) % 1000 := by
  rw [show ((j + 1 : Nat) : Int) * b = (j : Int) * b + b from by rw [Int.natCast_add, Int.add_mul]; simp]
  omega
set_option maxRecDepth 100000 in
set_option maxHeartbeats 4000000 in
theorem counts_in (n : Nat) (b : Int) (w : World) (hf : Forms w) (hn : n ≤ 200) (hb0 : 0 ≤ b) (hb1 : b ≤ 999) :
    Calls Tryd.prog 3 #[.int .i64 n, .int .i64 b] w fun ev w' => ev = .returned (.bool true) ∧ Below w.heap.size w w' := by
  have hnew := fun W => new_any W
  unfold stV at hnew
  have h2 : decide (200 < (n : Int)) = false := by simp; omega
  have h3 : decide (b < 0) = false := by simp; omega
  have h4 : decide (999 < b) = false := by simp; omega
  go_enter Tryd.func3, Tryd.ntmps3
  go_wp2_with (go_at_call 4; refine (hnew _).mono ?_; rintro e w1 ⟨rfl, b1⟩; clear hnew)
  have hsz1 : w.heap.size + 1 ≤ w1.heap.size := by have h := b1.size; simpa using h
  have B1 : Below (w.heap.size + 1) (w.alloc (.cells #[.int .i64 3, .int .i64 0, .int .i64 1] 27)) w1 := b1.mono (by simp)
  have hm : 0 ≤ (n : Int) * b ∧ (n : Int) * b ≤ 199800 := by
    refine ⟨Int.mul_nonneg (by omega) hb0, ?_⟩
    have := Int.mul_le_mul (show (n : Int) ≤ 200 by omega) hb1 hb0 (by omega)
    omega
  have FB : Hid (∀ wr, Below (w.heap.size + 1) (w.alloc (.cells #[.int .i64 3, .int .i64 0, .int .i64 1] 27)) wr → Forms wr ∧ Ops wr (.slice (some ⟨w.heap.size, 0, none⟩) 1 1) [(3, 0, 1)] ∧ Below w.heap.size w wr) := fun wr hb => by
    have hw : Below w.heap.size w wr := ((Below.refl _ w).alloc (Nat.le_refl _) _).trans (hb.mono (by omega))
    exact ⟨hf.all hw, (ops_one w _ 3 0 1).all (by simpa using hb), hw⟩
  clear b1 hf
  go_loopw [7] (fun i wr => ∃ j : Nat, j ≤ n ∧ i = .int .i64 j ∧ CB wr w1.heap.size (((j : Int) * b) % 1000) b ∧ w1.heap.size < wr.heap.size ∧ Below (w.heap.size + 1) (w.alloc (.cells #[.int .i64 3, .int .i64 0, .int .i64 1] 27)) wr) (fun i _ => n - (intOf i).toNat)
  case atStart => exact ⟨0, Nat.zero_le _, rfl, by simpa using CB.new w1 b _, by simp, B1.alloc (by omega) _⟩
  case round =>
    obtain ⟨j, hj, rfl, hcb, hlt, hB⟩ := hrel
    obtain ⟨fm, op, bw⟩ := FB.out wr hB
    obtain ⟨q, hq⟩ : ∃ q, q = ((j : Int) * b) % 1000 := ⟨_, rfl⟩
    have hq0 : 0 ≤ q ∧ q ≤ 999 := by omega
    rw [← hq] at hcb
    have HQ : Hid (q = ((j : Int) * b) % 1000) := hq
    clear hq
    have HCB : Hid (CB wr w1.heap.size q b) := hcb
    obtain ⟨⟨k0, k1, k2, k3, k4, k5, k6, k7⟩, j0, j1, j2, j3, j4, j5, j6, j7⟩ := hcb
    by_cases hjn : j < n
    · have hji : (j : Int) < (n : Int) := by omega
      have hst := step_add q b hq0 ⟨hb0, hb1⟩ wr _ fm op
      clear fm op
      go_wp2_with (go_at_call 5; refine hst.mono ?_; rintro e w2 ⟨rfl, b2⟩; clear hst k0 k1 k2 k3 k4 k5 k6 k7 j0 j1 j2 j3 j4 j5 j6 j7; have HC2 := HCB.out.keep b2 hlt; have hlt2 : w1.heap.size < w2.heap.size := Nat.lt_of_lt_of_le hlt b2.size; have HC : Hid (CB w2 w1.heap.size q b) := HC2; obtain ⟨⟨k0, k1, k2, k3, k4, k5, k6, k7⟩, j0, j1, j2, j3, j4, j5, j6, j7⟩ := HC2)
      go_roundw
      case rel =>
        refine ⟨j + 1, by omega, by go_num, ?_, ?_, ?_⟩
        · rw [← count_next, ← HQ.out]
          exact (HC.out.put ((q + b) % 1000)).keep ((Below.refl _ _).alloc (Nat.le_refl _) _) (by rw [put8_size]; exact hlt2)
        · rw [World.size_alloc, put8_size]
          exact Nat.lt_succ_of_lt hlt2
        · exact (put8_below (hB.trans (b2.mono (by omega))) hsz1 _ _ _ _ _ _ _ _).alloc (by rw [put8_size]; omega) _
      case measure => simp [intOf]; omega
    · obtain rfl : j = n := by omega
      have HM : ((j : Int) * b).tmod 1000 = q := by rw [Int.tmod_eq_emod_of_nonneg hm.1]; exact HQ.out.symm
      obtain ⟨hm0, hm1⟩ := hm
      have fm2 := fm.alloc (.cells #[.int .i64 8, .int .i64 0, .int .i64 0] 27)
      have hst := fun v h => step_send q b hq0 ⟨hb0, hb1⟩ _ v fm2 h
      clear fm op fm2
      go_wp2_with (go_at_call 5; refine (hst _ (ops_one _ _ _ _ _)).mono ?_; rintro e w2 ⟨rfl, b2⟩; clear hst k0 k1 k2 k3 k4 k5 k6 k7 j0 j1 j2 j3 j4 j5 j6 j7; have hlt2 : w1.heap.size < w2.heap.size := Nat.lt_of_lt_of_le hlt (by have h := b2.size; simp at h; omega); have HC2 := (HCB.out.keep (B := wr.heap.size) ((Below.refl _ _).alloc (Nat.le_refl _) _) hlt).keep (b2.mono (Nat.le_of_lt (by simp))) hlt; obtain ⟨⟨k0, k1, k2, k3, k4, k5, k6, k7⟩, j0, j1, j2, j3, j4, j5, j6, j7⟩ := HC2)
      go_ret
      exact ⟨rfl, ((bw.alloc (by have := bw.size; omega) _).trans (b2.mono (by have := bw.size; simp; omega))).alloc (by have h1 := bw.size; have h2 := b2.size; simp at h2; omega) _⟩

theorem counts_any (n b : Int) (w : World) (hf : Forms w) :
    Calls Tryd.prog 3 #[.int .i64 n, .int .i64 b] w fun ev w' => ev = .returned (.bool true) ∧ Below w.heap.size w w' := by
  by_cases h : n < 0 ∨ 200 < n ∨ b < 0 ∨ 999 < b
  · exact counts_out n b w h
  · obtain ⟨m, rfl⟩ : ∃ m : Nat, n = m := ⟨n.toNat, by omega⟩
    exact counts_in m b w hf (by omega) (by omega) (by omega)
end Go.Proofs.YthbcbdedmillaabDoor

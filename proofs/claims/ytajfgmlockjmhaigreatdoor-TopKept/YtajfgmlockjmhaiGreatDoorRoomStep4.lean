/-
  room.Step: one that goes on, and something is there to be taken; then of any code and any state.
-/
import Derived.Test.YtajfgmlockjmhaiGreatDoorRoomStep3
namespace Go.Proofs.YtajfgmlockjmhaiGreatDoor
open Go.RowKit

set_option maxRecDepth 100000 in
set_option maxHeartbeats 8000000 in
theorem rstep_go1 (b off n cap k : Nat) (oa ob oc got nx sv : Int) (c c' : Nat → Int) (w : World) (hk : k < n) (hblt : b < w.heap.size) (hg : outB got = false)
    (hc0 : w.cell? ⟨b, off + k * 3, none⟩ = some (.int .i64 oa)) (hc1 : w.cell? ⟨b, off + k * 3 + 1, none⟩ = some (.int .i64 ob)) (hc2 : w.cell? ⟨b, off + k * 3 + 2, none⟩ = some (.int .i64 oc))
    (hnext : ∀ W, Calls Tryz.prog 120 #[.agg #[.int .i64 oa, .int .i64 ob, .int .i64 oc], .agg #[.int .i64 k, .int .i64 (c 0), .int .i64 (c 1), .int .i64 (c 2), .int .i64 (c 3), .int .i64 (c 4), .int .i64 (c 5), .bool false], .int .i64 n, .bool true] W fun e w' => e = .returned (.int .i64 nx) ∧ Below W.heap.size W w')
    (hcells : ∀ W, Calls Tryz.prog 121 #[.agg #[.int .i64 oa, .int .i64 ob, .int .i64 oc], .agg #[.int .i64 (c 0), .int .i64 (c 1), .int .i64 (c 2), .int .i64 (c 3), .int .i64 (c 4), .int .i64 (c 5)], .int .i64 got, .bool true] W fun e w' => e = .returned (.agg #[.int .i64 (c' 0), .int .i64 (c' 1), .int .i64 (c' 2), .int .i64 (c' 3), .int .i64 (c' 4), .int .i64 (c' 5)]) ∧ Below W.heap.size W w')
    (hsent : ∀ W, Calls Tryz.prog 122 #[.agg #[.int .i64 oa, .int .i64 ob, .int .i64 oc], .agg #[.int .i64 (c 0), .int .i64 (c 1), .int .i64 (c 2), .int .i64 (c 3), .int .i64 (c 4), .int .i64 (c 5)]] W fun e w' => e = .returned (.int .i64 sv) ∧ Below W.heap.size W w')
    (hchk : Calls Tryz.prog 115 #[.slice (some ⟨b, off, none⟩) n cap, stV ⟨k, c, false⟩] (W2 w ⟨k, c, false⟩) fun ev w' => ev = .returned (.nilIface) ∧ Below (w.heap.size + 1 + 1) (W2 w ⟨k, c, false⟩) w') :
    Calls Tryz.prog 82 #[.slice (some ⟨b, off, none⟩) n cap, stV ⟨k, c, false⟩, .int .i64 got, .bool true] w fun ev w' => ev = .returned (.tuple #[stV ⟨nx, c', oa == 11⟩, .int .i64 sv, .nilIface]) ∧ Below w.heap.size w w' := by
  simp only [stV, W2] at hchk ⊢
  have hki : (k : Int) < (n : Int) := by omega
  have ho := fun W => outside_any got W
  rw [hg] at ho
  clear hg
  go_enter Tryz.func82, Tryz.ntmps82
  go_wp2_with (first | (go_at_call 115; refine hchk.mono ?_; rintro ev w0 ⟨rfl, b0⟩; clear hchk) | (go_at_call 119; refine (ho _).mono ?_; rintro ev w1 ⟨rfl, b2⟩; clear ho; have b1 := b0.trans (b2.mono (by have := b0.size; simp at this; omega)); clear b2 b0; obtain ⟨⟨e0, e1, e2, e3, e4, e5, e6, e7⟩, hd, hf, hsz, bw⟩ := w2_box (s := ⟨k, c, false⟩) b1; have D1 : Box8 w1 (w.heap.size + 1) := ⟨hd, hf⟩; clear hd hf; have g0 := w2_keep (s := ⟨k, c, false⟩) b1 hblt hc0; have g1 := w2_keep (s := ⟨k, c, false⟩) b1 hblt hc1; have g2 := w2_keep (s := ⟨k, c, false⟩) b1 hblt hc2; clear hc0 hc1 hc2 b1))
  obtain ⟨W1, hW1⟩ : ∃ W1, W1 = w1.alloc (.cells #[.int .i64 oa, .int .i64 ob, .int .i64 oc] 28) := ⟨_, rfl⟩
  rw [← hW1]
  have hszW : W1.heap.size = w1.heap.size + 1 := by rw [hW1]; simp
  have DW1 : Box8 W1 (w.heap.size + 1) := by
    rw [hW1]
    exact D1.keep (B := w1.heap.size) ((Below.refl _ _).alloc (Nat.le_refl _) _) hsz
  have SOF : Hid (∀ w', Below (w1.heap.size + 1) W1 w' → ((w'.cell? ⟨w.heap.size, 0, none⟩ = some (.int .i64 k) ∧ w'.cell? ⟨w.heap.size, 1, none⟩ = some (.int .i64 (c 0)) ∧ w'.cell? ⟨w.heap.size, 2, none⟩ = some (.int .i64 (c 1)) ∧ w'.cell? ⟨w.heap.size, 3, none⟩ = some (.int .i64 (c 2)) ∧ w'.cell? ⟨w.heap.size, 4, none⟩ = some (.int .i64 (c 3)) ∧ w'.cell? ⟨w.heap.size, 5, none⟩ = some (.int .i64 (c 4)) ∧ w'.cell? ⟨w.heap.size, 6, none⟩ = some (.int .i64 (c 5)) ∧ w'.cell? ⟨w.heap.size, 7, none⟩ = some (.bool false)) ∧ (w'.cell? ⟨w1.heap.size, 0, none⟩ = some (.int .i64 oa) ∧ w'.cell? ⟨w1.heap.size, 1, none⟩ = some (.int .i64 ob) ∧ w'.cell? ⟨w1.heap.size, 2, none⟩ = some (.int .i64 oc)))) := by
    intro w' hb
    have hc : ∀ b o, b < w1.heap.size + 1 → w'.cell? ⟨b, o, none⟩ = W1.cell? ⟨b, o, none⟩ := fun b o h => hb.cell (p := ⟨b, o, none⟩) h
    refine ⟨?_, ?_⟩
    · simp only [hc w.heap.size _ (by omega)]
      rw [hW1]
      have hn : w.heap.size < w1.heap.size := by omega
      have ha : ∀ o, (w1.alloc (.cells #[.int .i64 oa, .int .i64 ob, .int .i64 oc] 28)).cell? ⟨w.heap.size, o, none⟩ = w1.cell? ⟨w.heap.size, o, none⟩ := fun o => World.cell?_alloc_lt _ _ ⟨w.heap.size, o, none⟩ hn
      simp only [ha]
      exact ⟨e0, e1, e2, e3, e4, e5, e6, e7⟩
    · simp only [hc w1.heap.size _ (by omega)]
      rw [hW1]
      simp
  have BW1 : Below w.heap.size w W1 := by rw [hW1]; exact bw.alloc (by omega) _
  clear hW1 D1 e0 e1 e2 e3 e4 e5 e6 e7 g0 g1 g2
  go_region_held3 (fun w' => (w'.cell? ⟨w.heap.size, 0, none⟩ = some (.int .i64 k) ∧ w'.cell? ⟨w.heap.size, 1, none⟩ = some (.int .i64 (c 0)) ∧ w'.cell? ⟨w.heap.size, 2, none⟩ = some (.int .i64 (c 1)) ∧ w'.cell? ⟨w.heap.size, 3, none⟩ = some (.int .i64 (c 2)) ∧ w'.cell? ⟨w.heap.size, 4, none⟩ = some (.int .i64 (c 3)) ∧ w'.cell? ⟨w.heap.size, 5, none⟩ = some (.int .i64 (c 4)) ∧ w'.cell? ⟨w.heap.size, 6, none⟩ = some (.int .i64 (c 5)) ∧ w'.cell? ⟨w.heap.size, 7, none⟩ = some (.bool false)) ∧ (w'.cell? ⟨w1.heap.size, 0, none⟩ = some (.int .i64 oa) ∧ w'.cell? ⟨w1.heap.size, 1, none⟩ = some (.int .i64 ob) ∧ w'.cell? ⟨w1.heap.size, 2, none⟩ = some (.int .i64 oc)))
    (first
      | (with_reducible refine SOF.out _ (put8_below Bc ?_ _ _ _ _ _ _ _ _); have h1 := Bn.size; have h2 := Bc.size; omega)
      | (with_reducible exact SOF.out _ (Below.refl _ _).drew)
      | (with_reducible exact SOF.out _ Bc)
      | (with_reducible exact SOF.out _ Bn)
      | (with_reducible refine SOF.out _ ((Below.refl _ _).drew.alloc ?_ _); simp <;> omega)
      | (with_reducible refine SOF.out _ (Bn.alloc ?_ _); have := Bn.size; omega)
      | (with_reducible refine SOF.out _ (Bc.alloc ?_ _); have := Bc.size; omega))
    (first
      | (go_at_call 120; refine (hnext W1.drew).mono ?_; rintro e wn ⟨rfl, bn⟩; have Bn : Below (w1.heap.size + 1) W1 wn := (Below.refl _ _).drew.trans (bn.mono (by simp <;> omega)))
      | (go_at_call 120; refine (hnext (W1.drew.alloc (.cells #[.int .i64 0, .int .i64 0, .int .i64 0, .int .i64 0, .int .i64 0, .int .i64 0, .int .i64 0, .bool false] 73))).mono ?_; rintro e wn ⟨rfl, bn⟩; have Bn : Below (w1.heap.size + 1) W1 wn := ((Below.refl _ _).drew.alloc (by simp <;> omega) _).trans (bn.mono (by simp <;> omega)); have X : Box8 wn (w1.heap.size + 1) := (by have h := (Box8.new W1.drew).keep bn (by simp); simpa [hszW] using h); have hwn : w1.heap.size + 1 < wn.heap.size := (by have h := bn.size; rw [World.size_alloc] at h; have h2 : W1.drew.heap.size = W1.heap.size := rfl; omega))
      | (go_at_call 121; refine (hcells wn).mono ?_; rintro e wc ⟨rfl, bc⟩; have XC := X.keep bc hwn; clear X; obtain ⟨⟨k0, k1, k2, k3, k4, k5, k6, k7⟩, ⟨j0, j1, j2, j3, j4, j5, j6, j7⟩⟩ := XC; have Bc : Below (w1.heap.size + 1) W1 wc := Bn.trans (bc.mono (by have := Bn.size; omega)))
      | (go_at_call 121; refine (hcells wn).mono ?_; rintro e wc ⟨rfl, bc⟩; have Bc : Below (w1.heap.size + 1) W1 wc := Bn.trans (bc.mono (by have := Bn.size; omega)))
      | (go_at_call 121; refine (hcells (wn.alloc (.cells #[.int .i64 0, .int .i64 0, .int .i64 0, .int .i64 0, .int .i64 0, .int .i64 0, .int .i64 0, .bool false] 73))).mono ?_; rintro e wc ⟨rfl, bc⟩; have XC := (Box8.new wn).keep bc (by simp); obtain ⟨⟨k0, k1, k2, k3, k4, k5, k6, k7⟩, ⟨j0, j1, j2, j3, j4, j5, j6, j7⟩⟩ := XC; have Bc : Below (w1.heap.size + 1) W1 wc := (Bn.alloc (by have := Bn.size; omega) _).trans (bc.mono (by have := Bn.size; simp; omega))))
  · go_wp2_with fail
    obtain ⟨tb, htb⟩ : ∃ tb, tb = wc.heap.size := ⟨_, rfl⟩
    obtain ⟨W3, hW3⟩ : ∃ W3, W3 = wc.alloc (.cells #[.int .i64 nx, .int .i64 (c' 0), .int .i64 (c' 1), .int .i64 (c' 2), .int .i64 (c' 3), .int .i64 (c' 4), .int .i64 (c' 5), .bool (oa == 11)] 73) := ⟨_, rfl⟩
    have B3 : Below (w1.heap.size + 1) W1 W3 := by rw [hW3]; exact (Bc.alloc (by have := Bc.size; omega) _)
    have T3 : W3.cell? ⟨tb, 0, none⟩ = some (.int .i64 nx) ∧ W3.cell? ⟨tb, 1, none⟩ = some (.int .i64 (c' 0)) ∧ W3.cell? ⟨tb, 2, none⟩ = some (.int .i64 (c' 1)) ∧ W3.cell? ⟨tb, 3, none⟩ = some (.int .i64 (c' 2)) ∧ W3.cell? ⟨tb, 4, none⟩ = some (.int .i64 (c' 3)) ∧ W3.cell? ⟨tb, 5, none⟩ = some (.int .i64 (c' 4)) ∧ W3.cell? ⟨tb, 6, none⟩ = some (.int .i64 (c' 5)) ∧ W3.cell? ⟨tb, 7, none⟩ = some (.bool (oa == 11)) := by rw [hW3, htb]; exact (by simp)
    have hle : w1.heap.size + 1 ≤ tb := by rw [htb]; exact (by have := Bc.size; omega)
    have hlt : tb < W3.heap.size := by rw [hW3, htb]; exact (by simp)
    rw [← hW3, ← htb]
    clear hW3 htb
    obtain ⟨t0, t1, t2, t3, t4, t5, t6, t7⟩ := T3
    have SOF2 : Hid (∀ w', Below (tb + 1) W3 w' → ((w'.cell? ⟨tb, 0, none⟩ = some (.int .i64 nx) ∧ w'.cell? ⟨tb, 1, none⟩ = some (.int .i64 (c' 0)) ∧ w'.cell? ⟨tb, 2, none⟩ = some (.int .i64 (c' 1)) ∧ w'.cell? ⟨tb, 3, none⟩ = some (.int .i64 (c' 2)) ∧ w'.cell? ⟨tb, 4, none⟩ = some (.int .i64 (c' 3)) ∧ w'.cell? ⟨tb, 5, none⟩ = some (.int .i64 (c' 4)) ∧ w'.cell? ⟨tb, 6, none⟩ = some (.int .i64 (c' 5)) ∧ w'.cell? ⟨tb, 7, none⟩ = some (.bool (oa == 11))) ∧ (w'.cell? ⟨w.heap.size, 0, none⟩ = some (.int .i64 k) ∧ w'.cell? ⟨w.heap.size, 1, none⟩ = some (.int .i64 (c 0)) ∧ w'.cell? ⟨w.heap.size, 2, none⟩ = some (.int .i64 (c 1)) ∧ w'.cell? ⟨w.heap.size, 3, none⟩ = some (.int .i64 (c 2)) ∧ w'.cell? ⟨w.heap.size, 4, none⟩ = some (.int .i64 (c 3)) ∧ w'.cell? ⟨w.heap.size, 5, none⟩ = some (.int .i64 (c 4)) ∧ w'.cell? ⟨w.heap.size, 6, none⟩ = some (.int .i64 (c 5)) ∧ w'.cell? ⟨w.heap.size, 7, none⟩ = some (.bool false)) ∧ (w'.cell? ⟨w1.heap.size, 0, none⟩ = some (.int .i64 oa) ∧ w'.cell? ⟨w1.heap.size, 1, none⟩ = some (.int .i64 ob) ∧ w'.cell? ⟨w1.heap.size, 2, none⟩ = some (.int .i64 oc)))) := by
      intro w' hb
      have hc : ∀ b o, b < tb + 1 → w'.cell? ⟨b, o, none⟩ = W3.cell? ⟨b, o, none⟩ := fun b o h => hb.cell (p := ⟨b, o, none⟩) h
      refine ⟨?_, ?_⟩
      · simp only [hc tb _ (by omega)]
        exact ⟨t0, t1, t2, t3, t4, t5, t6, t7⟩
      · simp only [hc w.heap.size _ (by omega), hc w1.heap.size _ (by omega)]
        exact SOF.out _ B3
    have n1 : w.heap.size + 1 ≠ tb := by omega
    have n2 : w.heap.size + 1 ≠ w1.heap.size := by omega
    have n3 : w.heap.size + 1 ≠ w.heap.size := by omega
    have DW3 : Box8 W3 (w.heap.size + 1) := DW1.keep B3 (by omega)
    have BW3 : Below w.heap.size w W3 := BW1.trans (B3.mono (by omega))
    clear t0 t1 t2 t3 t4 t5 t6 t7 B3 DW1 BW1 SOF hnext hcells
    go_region_held3 (fun w' => (w'.cell? ⟨tb, 0, none⟩ = some (.int .i64 nx) ∧ w'.cell? ⟨tb, 1, none⟩ = some (.int .i64 (c' 0)) ∧ w'.cell? ⟨tb, 2, none⟩ = some (.int .i64 (c' 1)) ∧ w'.cell? ⟨tb, 3, none⟩ = some (.int .i64 (c' 2)) ∧ w'.cell? ⟨tb, 4, none⟩ = some (.int .i64 (c' 3)) ∧ w'.cell? ⟨tb, 5, none⟩ = some (.int .i64 (c' 4)) ∧ w'.cell? ⟨tb, 6, none⟩ = some (.int .i64 (c' 5)) ∧ w'.cell? ⟨tb, 7, none⟩ = some (.bool (oa == 11))) ∧ (w'.cell? ⟨w.heap.size, 0, none⟩ = some (.int .i64 k) ∧ w'.cell? ⟨w.heap.size, 1, none⟩ = some (.int .i64 (c 0)) ∧ w'.cell? ⟨w.heap.size, 2, none⟩ = some (.int .i64 (c 1)) ∧ w'.cell? ⟨w.heap.size, 3, none⟩ = some (.int .i64 (c 2)) ∧ w'.cell? ⟨w.heap.size, 4, none⟩ = some (.int .i64 (c 3)) ∧ w'.cell? ⟨w.heap.size, 5, none⟩ = some (.int .i64 (c 4)) ∧ w'.cell? ⟨w.heap.size, 6, none⟩ = some (.int .i64 (c 5)) ∧ w'.cell? ⟨w.heap.size, 7, none⟩ = some (.bool false)) ∧ (w'.cell? ⟨w1.heap.size, 0, none⟩ = some (.int .i64 oa) ∧ w'.cell? ⟨w1.heap.size, 1, none⟩ = some (.int .i64 ob) ∧ w'.cell? ⟨w1.heap.size, 2, none⟩ = some (.int .i64 oc)))
      (first
        | (simp only [put8_cell _ _ _ _ n1, put8_cell _ _ _ _ n2, put8_cell _ _ _ _ n3]; with_reducible exact SOF2.out _ Bs)
        | (with_reducible exact SOF2.out _ (Below.refl _ _).drew)
        | (with_reducible exact SOF2.out _ Bs))
      (first
        | (go_at_call 122; refine (hsent W3.drew).mono ?_; rintro e ws ⟨rfl, bs⟩; have Bs : Below (tb + 1) W3 ws := (Below.refl _ _).drew.trans (bs.mono hlt); have XS := DW3.keep Bs (by omega); obtain ⟨⟨q0, q1, q2, q3, q4, q5, q6, q7⟩, ⟨r0, r1, r2, r3, r4, r5, r6, r7⟩⟩ := XS))
    go_wp2
    refine bodyPost_ret (v := .tuple #[stV ⟨nx, c', oa == 11⟩, .int .i64 sv, .nilIface]) ?_ rfl ⟨rfl, ?_⟩
    · simp [results, Tryz.results82, go_sem, q0, q1, q2, q3, q4, q5, q6, q7, stV]
    · exact put8_below (BW3.trans (Bs.mono (by omega))) (Nat.le_succ _) _ _ _ _ _ _ _ _
  · go_wp2_with fail
    obtain ⟨tb, htb⟩ : ∃ tb, tb = wn.heap.size := ⟨_, rfl⟩
    obtain ⟨W3, hW3⟩ : ∃ W3, W3 = ((((((((wc.setCell ⟨wn.heap.size, 0, none⟩ (.int .i64 nx)).setCell ⟨wn.heap.size, 1, none⟩ (.int .i64 (c' 0))).setCell ⟨wn.heap.size, 2, none⟩ (.int .i64 (c' 1))).setCell ⟨wn.heap.size, 3, none⟩ (.int .i64 (c' 2))).setCell ⟨wn.heap.size, 4, none⟩ (.int .i64 (c' 3))).setCell ⟨wn.heap.size, 5, none⟩ (.int .i64 (c' 4))).setCell ⟨wn.heap.size, 6, none⟩ (.int .i64 (c' 5))).setCell ⟨wn.heap.size, 7, none⟩ (.bool (oa == 11))) := ⟨_, rfl⟩
    have B3 : Below (w1.heap.size + 1) W1 W3 := by rw [hW3]; exact (put8_below Bc (by have := Bn.size; omega) _ _ _ _ _ _ _ _)
    have T3 : W3.cell? ⟨tb, 0, none⟩ = some (.int .i64 nx) ∧ W3.cell? ⟨tb, 1, none⟩ = some (.int .i64 (c' 0)) ∧ W3.cell? ⟨tb, 2, none⟩ = some (.int .i64 (c' 1)) ∧ W3.cell? ⟨tb, 3, none⟩ = some (.int .i64 (c' 2)) ∧ W3.cell? ⟨tb, 4, none⟩ = some (.int .i64 (c' 3)) ∧ W3.cell? ⟨tb, 5, none⟩ = some (.int .i64 (c' 4)) ∧ W3.cell? ⟨tb, 6, none⟩ = some (.int .i64 (c' 5)) ∧ W3.cell? ⟨tb, 7, none⟩ = some (.bool (oa == 11)) := by rw [hW3, htb]; exact (put8_at wc wn.heap.size ⟨⟨k0, k1, k2, k3, k4, k5, k6, k7⟩, ⟨j0, j1, j2, j3, j4, j5, j6, j7⟩⟩ _ _ _ _ _ _ _ _)
    have hle : w1.heap.size + 1 ≤ tb := by rw [htb]; exact (by have := Bn.size; omega)
    have hlt : tb < W3.heap.size := by rw [hW3, htb]; exact (by rw [put8_size]; have h := bc.size; rw [World.size_alloc] at h; omega)
    rw [← hW3, ← htb]
    clear hW3 htb
    obtain ⟨t0, t1, t2, t3, t4, t5, t6, t7⟩ := T3
    have SOF2 : Hid (∀ w', Below (tb + 1) W3 w' → ((w'.cell? ⟨tb, 0, none⟩ = some (.int .i64 nx) ∧ w'.cell? ⟨tb, 1, none⟩ = some (.int .i64 (c' 0)) ∧ w'.cell? ⟨tb, 2, none⟩ = some (.int .i64 (c' 1)) ∧ w'.cell? ⟨tb, 3, none⟩ = some (.int .i64 (c' 2)) ∧ w'.cell? ⟨tb, 4, none⟩ = some (.int .i64 (c' 3)) ∧ w'.cell? ⟨tb, 5, none⟩ = some (.int .i64 (c' 4)) ∧ w'.cell? ⟨tb, 6, none⟩ = some (.int .i64 (c' 5)) ∧ w'.cell? ⟨tb, 7, none⟩ = some (.bool (oa == 11))) ∧ (w'.cell? ⟨w.heap.size, 0, none⟩ = some (.int .i64 k) ∧ w'.cell? ⟨w.heap.size, 1, none⟩ = some (.int .i64 (c 0)) ∧ w'.cell? ⟨w.heap.size, 2, none⟩ = some (.int .i64 (c 1)) ∧ w'.cell? ⟨w.heap.size, 3, none⟩ = some (.int .i64 (c 2)) ∧ w'.cell? ⟨w.heap.size, 4, none⟩ = some (.int .i64 (c 3)) ∧ w'.cell? ⟨w.heap.size, 5, none⟩ = some (.int .i64 (c 4)) ∧ w'.cell? ⟨w.heap.size, 6, none⟩ = some (.int .i64 (c 5)) ∧ w'.cell? ⟨w.heap.size, 7, none⟩ = some (.bool false)) ∧ (w'.cell? ⟨w1.heap.size, 0, none⟩ = some (.int .i64 oa) ∧ w'.cell? ⟨w1.heap.size, 1, none⟩ = some (.int .i64 ob) ∧ w'.cell? ⟨w1.heap.size, 2, none⟩ = some (.int .i64 oc)))) := by
      intro w' hb
      have hc : ∀ b o, b < tb + 1 → w'.cell? ⟨b, o, none⟩ = W3.cell? ⟨b, o, none⟩ := fun b o h => hb.cell (p := ⟨b, o, none⟩) h
      refine ⟨?_, ?_⟩
      · simp only [hc tb _ (by omega)]
        exact ⟨t0, t1, t2, t3, t4, t5, t6, t7⟩
      · simp only [hc w.heap.size _ (by omega), hc w1.heap.size _ (by omega)]
        exact SOF.out _ B3
    have n1 : w.heap.size + 1 ≠ tb := by omega
    have n2 : w.heap.size + 1 ≠ w1.heap.size := by omega
    have n3 : w.heap.size + 1 ≠ w.heap.size := by omega
    have DW3 : Box8 W3 (w.heap.size + 1) := DW1.keep B3 (by omega)
    have BW3 : Below w.heap.size w W3 := BW1.trans (B3.mono (by omega))
    clear t0 t1 t2 t3 t4 t5 t6 t7 B3 DW1 BW1 SOF hnext hcells
    go_region_held3 (fun w' => (w'.cell? ⟨tb, 0, none⟩ = some (.int .i64 nx) ∧ w'.cell? ⟨tb, 1, none⟩ = some (.int .i64 (c' 0)) ∧ w'.cell? ⟨tb, 2, none⟩ = some (.int .i64 (c' 1)) ∧ w'.cell? ⟨tb, 3, none⟩ = some (.int .i64 (c' 2)) ∧ w'.cell? ⟨tb, 4, none⟩ = some (.int .i64 (c' 3)) ∧ w'.cell? ⟨tb, 5, none⟩ = some (.int .i64 (c' 4)) ∧ w'.cell? ⟨tb, 6, none⟩ = some (.int .i64 (c' 5)) ∧ w'.cell? ⟨tb, 7, none⟩ = some (.bool (oa == 11))) ∧ (w'.cell? ⟨w.heap.size, 0, none⟩ = some (.int .i64 k) ∧ w'.cell? ⟨w.heap.size, 1, none⟩ = some (.int .i64 (c 0)) ∧ w'.cell? ⟨w.heap.size, 2, none⟩ = some (.int .i64 (c 1)) ∧ w'.cell? ⟨w.heap.size, 3, none⟩ = some (.int .i64 (c 2)) ∧ w'.cell? ⟨w.heap.size, 4, none⟩ = some (.int .i64 (c 3)) ∧ w'.cell? ⟨w.heap.size, 5, none⟩ = some (.int .i64 (c 4)) ∧ w'.cell? ⟨w.heap.size, 6, none⟩ = some (.int .i64 (c 5)) ∧ w'.cell? ⟨w.heap.size, 7, none⟩ = some (.bool false)) ∧ (w'.cell? ⟨w1.heap.size, 0, none⟩ = some (.int .i64 oa) ∧ w'.cell? ⟨w1.heap.size, 1, none⟩ = some (.int .i64 ob) ∧ w'.cell? ⟨w1.heap.size, 2, none⟩ = some (.int .i64 oc)))
      (first
        | (simp only [put8_cell _ _ _ _ n1, put8_cell _ _ _ _ n2, put8_cell _ _ _ _ n3]; with_reducible exact SOF2.out _ Bs)
        | (with_reducible exact SOF2.out _ (Below.refl _ _).drew)
        | (with_reducible exact SOF2.out _ Bs))
      (first
        | (go_at_call 122; refine (hsent W3.drew).mono ?_; rintro e ws ⟨rfl, bs⟩; have Bs : Below (tb + 1) W3 ws := (Below.refl _ _).drew.trans (bs.mono hlt); have XS := DW3.keep Bs (by omega); obtain ⟨⟨q0, q1, q2, q3, q4, q5, q6, q7⟩, ⟨r0, r1, r2, r3, r4, r5, r6, r7⟩⟩ := XS))
    go_wp2
    refine bodyPost_ret (v := .tuple #[stV ⟨nx, c', oa == 11⟩, .int .i64 sv, .nilIface]) ?_ rfl ⟨rfl, ?_⟩
    · simp [results, Tryz.results82, go_sem, q0, q1, q2, q3, q4, q5, q6, q7, stV]
    · exact put8_below (BW3.trans (Bs.mono (by omega))) (Nat.le_succ _) _ _ _ _ _ _ _ _
  · go_wp2_with fail
    obtain ⟨tb, htb⟩ : ∃ tb, tb = (w1.heap.size + 1) := ⟨_, rfl⟩
    obtain ⟨W3, hW3⟩ : ∃ W3, W3 = ((((((((wc.setCell ⟨(w1.heap.size + 1), 0, none⟩ (.int .i64 nx)).setCell ⟨(w1.heap.size + 1), 1, none⟩ (.int .i64 (c' 0))).setCell ⟨(w1.heap.size + 1), 2, none⟩ (.int .i64 (c' 1))).setCell ⟨(w1.heap.size + 1), 3, none⟩ (.int .i64 (c' 2))).setCell ⟨(w1.heap.size + 1), 4, none⟩ (.int .i64 (c' 3))).setCell ⟨(w1.heap.size + 1), 5, none⟩ (.int .i64 (c' 4))).setCell ⟨(w1.heap.size + 1), 6, none⟩ (.int .i64 (c' 5))).setCell ⟨(w1.heap.size + 1), 7, none⟩ (.bool (oa == 11))) := ⟨_, rfl⟩
    have B3 : Below (w1.heap.size + 1) W1 W3 := by rw [hW3]; exact (put8_below Bc (Nat.le_refl _) _ _ _ _ _ _ _ _)
    have T3 : W3.cell? ⟨tb, 0, none⟩ = some (.int .i64 nx) ∧ W3.cell? ⟨tb, 1, none⟩ = some (.int .i64 (c' 0)) ∧ W3.cell? ⟨tb, 2, none⟩ = some (.int .i64 (c' 1)) ∧ W3.cell? ⟨tb, 3, none⟩ = some (.int .i64 (c' 2)) ∧ W3.cell? ⟨tb, 4, none⟩ = some (.int .i64 (c' 3)) ∧ W3.cell? ⟨tb, 5, none⟩ = some (.int .i64 (c' 4)) ∧ W3.cell? ⟨tb, 6, none⟩ = some (.int .i64 (c' 5)) ∧ W3.cell? ⟨tb, 7, none⟩ = some (.bool (oa == 11)) := by rw [hW3, htb]; exact (put8_at wc (w1.heap.size + 1) ⟨⟨k0, k1, k2, k3, k4, k5, k6, k7⟩, ⟨j0, j1, j2, j3, j4, j5, j6, j7⟩⟩ _ _ _ _ _ _ _ _)
    have hle : w1.heap.size + 1 ≤ tb := by rw [htb]; exact (Nat.le_refl _)
    have hlt : tb < W3.heap.size := by rw [hW3, htb]; exact (by rw [put8_size]; have h := bc.size; omega)
    rw [← hW3, ← htb]
    clear hW3 htb
    obtain ⟨t0, t1, t2, t3, t4, t5, t6, t7⟩ := T3
    have SOF2 : Hid (∀ w', Below (tb + 1) W3 w' → ((w'.cell? ⟨tb, 0, none⟩ = some (.int .i64 nx) ∧ w'.cell? ⟨tb, 1, none⟩ = some (.int .i64 (c' 0)) ∧ w'.cell? ⟨tb, 2, none⟩ = some (.int .i64 (c' 1)) ∧ w'.cell? ⟨tb, 3, none⟩ = some (.int .i64 (c' 2)) ∧ w'.cell? ⟨tb, 4, none⟩ = some (.int .i64 (c' 3)) ∧ w'.cell? ⟨tb, 5, none⟩ = some (.int .i64 (c' 4)) ∧ w'.cell? ⟨tb, 6, none⟩ = some (.int .i64 (c' 5)) ∧ w'.cell? ⟨tb, 7, none⟩ = some (.bool (oa == 11))) ∧ (w'.cell? ⟨w.heap.size, 0, none⟩ = some (.int .i64 k) ∧ w'.cell? ⟨w.heap.size, 1, none⟩ = some (.int .i64 (c 0)) ∧ w'.cell? ⟨w.heap.size, 2, none⟩ = some (.int .i64 (c 1)) ∧ w'.cell? ⟨w.heap.size, 3, none⟩ = some (.int .i64 (c 2)) ∧ w'.cell? ⟨w.heap.size, 4, none⟩ = some (.int .i64 (c 3)) ∧ w'.cell? ⟨w.heap.size, 5, none⟩ = some (.int .i64 (c 4)) ∧ w'.cell? ⟨w.heap.size, 6, none⟩ = some (.int .i64 (c 5)) ∧ w'.cell? ⟨w.heap.size, 7, none⟩ = some (.bool false)) ∧ (w'.cell? ⟨w1.heap.size, 0, none⟩ = some (.int .i64 oa) ∧ w'.cell? ⟨w1.heap.size, 1, none⟩ = some (.int .i64 ob) ∧ w'.cell? ⟨w1.heap.size, 2, none⟩ = some (.int .i64 oc)))) := by
      intro w' hb
      have hc : ∀ b o, b < tb + 1 → w'.cell? ⟨b, o, none⟩ = W3.cell? ⟨b, o, none⟩ := fun b o h => hb.cell (p := ⟨b, o, none⟩) h
      refine ⟨?_, ?_⟩
      · simp only [hc tb _ (by omega)]
        exact ⟨t0, t1, t2, t3, t4, t5, t6, t7⟩
      · simp only [hc w.heap.size _ (by omega), hc w1.heap.size _ (by omega)]
        exact SOF.out _ B3
    have n1 : w.heap.size + 1 ≠ tb := by omega
    have n2 : w.heap.size + 1 ≠ w1.heap.size := by omega
    have n3 : w.heap.size + 1 ≠ w.heap.size := by omega
    have DW3 : Box8 W3 (w.heap.size + 1) := DW1.keep B3 (by omega)
    have BW3 : Below w.heap.size w W3 := BW1.trans (B3.mono (by omega))
    clear t0 t1 t2 t3 t4 t5 t6 t7 B3 DW1 BW1 SOF hnext hcells
    go_region_held3 (fun w' => (w'.cell? ⟨tb, 0, none⟩ = some (.int .i64 nx) ∧ w'.cell? ⟨tb, 1, none⟩ = some (.int .i64 (c' 0)) ∧ w'.cell? ⟨tb, 2, none⟩ = some (.int .i64 (c' 1)) ∧ w'.cell? ⟨tb, 3, none⟩ = some (.int .i64 (c' 2)) ∧ w'.cell? ⟨tb, 4, none⟩ = some (.int .i64 (c' 3)) ∧ w'.cell? ⟨tb, 5, none⟩ = some (.int .i64 (c' 4)) ∧ w'.cell? ⟨tb, 6, none⟩ = some (.int .i64 (c' 5)) ∧ w'.cell? ⟨tb, 7, none⟩ = some (.bool (oa == 11))) ∧ (w'.cell? ⟨w.heap.size, 0, none⟩ = some (.int .i64 k) ∧ w'.cell? ⟨w.heap.size, 1, none⟩ = some (.int .i64 (c 0)) ∧ w'.cell? ⟨w.heap.size, 2, none⟩ = some (.int .i64 (c 1)) ∧ w'.cell? ⟨w.heap.size, 3, none⟩ = some (.int .i64 (c 2)) ∧ w'.cell? ⟨w.heap.size, 4, none⟩ = some (.int .i64 (c 3)) ∧ w'.cell? ⟨w.heap.size, 5, none⟩ = some (.int .i64 (c 4)) ∧ w'.cell? ⟨w.heap.size, 6, none⟩ = some (.int .i64 (c 5)) ∧ w'.cell? ⟨w.heap.size, 7, none⟩ = some (.bool false)) ∧ (w'.cell? ⟨w1.heap.size, 0, none⟩ = some (.int .i64 oa) ∧ w'.cell? ⟨w1.heap.size, 1, none⟩ = some (.int .i64 ob) ∧ w'.cell? ⟨w1.heap.size, 2, none⟩ = some (.int .i64 oc)))
      (first
        | (simp only [put8_cell _ _ _ _ n1, put8_cell _ _ _ _ n2, put8_cell _ _ _ _ n3]; with_reducible exact SOF2.out _ Bs)
        | (with_reducible exact SOF2.out _ (Below.refl _ _).drew)
        | (with_reducible exact SOF2.out _ Bs))
      (first
        | (go_at_call 122; refine (hsent W3.drew).mono ?_; rintro e ws ⟨rfl, bs⟩; have Bs : Below (tb + 1) W3 ws := (Below.refl _ _).drew.trans (bs.mono hlt); have XS := DW3.keep Bs (by omega); obtain ⟨⟨q0, q1, q2, q3, q4, q5, q6, q7⟩, ⟨r0, r1, r2, r3, r4, r5, r6, r7⟩⟩ := XS))
    go_wp2
    refine bodyPost_ret (v := .tuple #[stV ⟨nx, c', oa == 11⟩, .int .i64 sv, .nilIface]) ?_ rfl ⟨rfl, ?_⟩
    · simp [results, Tryz.results82, go_sem, q0, q1, q2, q3, q4, q5, q6, q7, stV]
    · exact put8_below (BW3.trans (Bs.mono (by omega))) (Nat.le_succ _) _ _ _ _ _ _ _ _

theorem rsent_any (o : O3) (c : Nat → Int) (w : World) (ha : 0 ≤ o.2.1 ∧ o.2.1 ≤ 5) :
    Calls Tryz.prog 122 #[.agg #[.int .i64 o.1, .int .i64 o.2.1, .int .i64 o.2.2], .agg #[.int .i64 (c 0), .int .i64 (c 1), .int .i64 (c 2), .int .i64 (c 3), .int .i64 (c 4), .int .i64 (c 5)]] w fun e w' => e = .returned (.int .i64 (sentF o c)) ∧ Below w.heap.size w w' := by
  obtain ⟨n, a, b⟩ := o
  simp only at ha ⊢
  by_cases h : n = 8
  · subst h
    obtain ⟨m, rfl⟩ : ∃ m : Nat, a = m := ⟨a.toNat, by omega⟩
    exact (sent_yes m b c w (by omega)).mono fun _ _ ⟨h, hb⟩ => ⟨by rw [h]; simp [sentF], hb⟩
  · exact (sent_no n a b c w h).mono fun _ _ ⟨h', hb⟩ => ⟨by rw [h']; simp [sentF, h], hb⟩

/-- What room.Step tells: the state, what is sent, the error. -/
def stepT (l : List O3) (s : St) (got : Int) (is : Bool) : Value :=
  if gchk l s got is = 0 then .tuple #[stV (stepF (l.getD s.p.toNat (0, 0, 0)) s l.length got is), .int .i64 (sendF (l.getD s.p.toNat (0, 0, 0)) s), .nilIface]
  else .tuple #[stV st0, .int .i64 0, errV (gchk l s got is)]

theorem gchk_none {l : List O3} {s : St} {got : Int} {is : Bool} (h : gchk l s got is = 0) : rchk l s = 0 ∧ (is = true → outB got = false) := by
  unfold gchk at h
  split at h
  · rename_i h0
    refine ⟨h0, fun hi => ?_⟩
    split at h
    · cases h
    · rename_i h1
      simp only [hi, true_and] at h1
      simpa [outB] using h1
  · rename_i h0
    exact absurd h h0
theorem rchk_none {l : List O3} {s : St} (h : rchk l s = 0) : (chk l).2 = 0 ∧ stOk s l.length = true := by
  unfold rchk at h
  split at h
  · rename_i h0
    refine ⟨h0, ?_⟩
    split at h
    · assumption
    · cases h
  · rename_i h0
    exact absurd h h0

theorem rstep_any (l : List O3) (v : Value) (s : St) (got : Int) (is : Bool) (w : World) (hf : Forms w) (hl : Ops w v l) :
    Calls Tryz.prog 82 #[v, stV s, .int .i64 got, .bool is] w fun ev w' => ev = .returned (stepT l s got is) ∧ Below w.heap.size w w' := by
  have hk := rcheck_any l v s (W2 w s) (hf.all (w2_below w s)) (hl.all (w2_below w s))
  rw [w2_size] at hk
  by_cases hg : gchk l s got is = 0
  · obtain ⟨h0, h1⟩ := gchk_none hg
    rw [h0] at hk
    obtain ⟨hc, hs⟩ := rchk_none h0
    obtain ⟨hl0, hl1, hl2⟩ := chk_zero hc
    obtain ⟨hp0, hp1, hp2⟩ := stOk_iff.1 hs
    rw [show stepT l s got is = .tuple #[stV (stepF (l.getD s.p.toNat (0, 0, 0)) s l.length got is), .int .i64 (sendF (l.getD s.p.toNat (0, 0, 0)) s), .nilIface] from if_pos hg]
    by_cases hfl : s.f = true
    · obtain ⟨ao, cap, rfl⟩ := hl.form
      rw [show stepF (l.getD s.p.toNat (0, 0, 0)) s l.length got is = s from if_pos hfl, show sendF (l.getD s.p.toNat (0, 0, 0)) s = -1 from if_pos hfl]
      exact rstep_failed ao l.length cap got is s w h1 hfl hk
    · obtain ⟨p, c, f⟩ := s
      simp only at hp0 hp1 hp2 hfl
      obtain rfl : f = false := by simpa using hfl
      obtain ⟨k, rfl⟩ : ∃ k : Nat, p = k := ⟨p.toNat, by omega⟩
      have hkl : k < l.length := by omega
      obtain ⟨o, ho⟩ : ∃ o, l[k]? = some o := ⟨l[k], List.getElem?_eq_getElem hkl⟩
      have hget : l.getD (k : Int).toNat (0, 0, 0) = o := by simp [List.getD, ho]
      rcases hl with ⟨rfl, _⟩ | ⟨b, off, cap, rfl, hlt, hcl⟩
      · exact absurd rfl hl0
      obtain ⟨c0, c1, c2⟩ := hcl k o ho
      have hok := hl2 o (List.mem_of_getElem? ho)
      have hr := ok3_range hok
      have hsm := ok3_small (by omega) hok
      have hbb : 2 ≤ o.1 ∧ o.1 ≤ 5 → 0 ≤ o.2.2 ∧ o.2.2 ≤ 5 := fun ⟨h2, h5⟩ => by
        have hB : bB o.1 l.length = 6 := by simp only [bB]; rw [if_neg (by omega), if_pos h5]
        omega
      have hnx := fun W => next_any o ⟨k, c, false⟩ l.length is W ⟨hsm.2.2.1, hsm.2.2.2.1⟩ hp0 hp1 hl1
      have hce := fun W => cells_any o c got is W ⟨hsm.1, hsm.2.1⟩ ⟨hsm.2.2.1, hsm.2.2.2.1⟩ hbb hp2
      have hse := fun W => rsent_any o c W ⟨hsm.2.2.1, hsm.2.2.2.1⟩
      have hres : (Value.tuple #[stV (stepF o ⟨k, c, false⟩ l.length got is), .int .i64 (sendF o ⟨k, c, false⟩), .nilIface]) = .tuple #[stV ⟨nextF o ⟨k, c, false⟩ l.length is, cellsF o c got is, o.1 == 11⟩, .int .i64 (sentF o c), .nilIface] := by
        rw [show (o.1 == 11) = decide (o.1 = 11) by rw [Bool.eq_iff_iff]; simp]
        simp [stepF, sendF, stV]
      simp only [hget]
      rw [hres]
      cases is with
      | false => exact rstep_go0 b off l.length cap k o.1 o.2.1 o.2.2 got _ _ c _ w hkl hlt c0 c1 c2 hnx hce hse hk
      | true => exact rstep_go1 b off l.length cap k o.1 o.2.1 o.2.2 got _ _ c _ w hkl hlt (h1 rfl) c0 c1 c2 hnx hce hse hk
  · rw [show stepT l s got is = .tuple #[stV st0, .int .i64 0, errV (gchk l s got is)] from if_neg hg]
    obtain ⟨ao, cap, rfl⟩ := hl.form
    by_cases h0 : rchk l s = 0
    · rw [h0] at hk
      by_cases h1 : is = true ∧ (got < 0 ∨ 999 < got)
      · rw [show gchk l s got is = 1 by simp only [gchk, h0, if_true, h1, and_self]]
        obtain ⟨rfl, h2⟩ := h1
        exact rstep_got ao l.length cap got s w h2 hk
      · exact absurd (by simp only [gchk, h0, if_true, h1, if_false]) hg
    · rw [show gchk l s got is = rchk l s by simp only [gchk, h0, if_false]]
      exact rstep_err ao l.length cap _ got is s w h0 hk
end Go.Proofs.YtajfgmlockjmhaiGreatDoor

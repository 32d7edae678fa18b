/-
  room.Step: one that goes on.
-/
import Derived.Test.YtajfgmlockjmhaiGreatDoorJt13
import Derived.Test.YtajfgmlockjmhaiGreatDoorRoomCells2
import Derived.Deep.RegionHeld3
namespace Go.Proofs.YtajfgmlockjmhaiGreatDoor
open Go.RowKit

theorem w2_keep {w w1 : World} {s : St} {b i : Nat} {v : Value} (b1 : Below (w.heap.size + 1 + 1) (W2 w s) w1) (hb : b < w.heap.size) (h : w.cell? ⟨b, i, none⟩ = some v) : w1.cell? ⟨b, i, none⟩ = some v :=
  (((w2_below w s).trans (b1.mono (by omega))).cell (p := ⟨b, i, none⟩) hb).trans h
/-- The cells of a new box of a state. -/
def Box8 (w : World) (b : Nat) : Prop :=
    (w.cell? ⟨b, 0, none⟩ = some (.int .i64 0) ∧ w.cell? ⟨b, 1, none⟩ = some (.int .i64 0) ∧ w.cell? ⟨b, 2, none⟩ = some (.int .i64 0) ∧ w.cell? ⟨b, 3, none⟩ = some (.int .i64 0) ∧ w.cell? ⟨b, 4, none⟩ = some (.int .i64 0) ∧ w.cell? ⟨b, 5, none⟩ = some (.int .i64 0) ∧ w.cell? ⟨b, 6, none⟩ = some (.int .i64 0) ∧ w.cell? ⟨b, 7, none⟩ = some (.bool false)) ∧
    (w.frozen? ⟨b, 0, none⟩ = false ∧ w.frozen? ⟨b, 1, none⟩ = false ∧ w.frozen? ⟨b, 2, none⟩ = false ∧ w.frozen? ⟨b, 3, none⟩ = false ∧ w.frozen? ⟨b, 4, none⟩ = false ∧ w.frozen? ⟨b, 5, none⟩ = false ∧ w.frozen? ⟨b, 6, none⟩ = false ∧ w.frozen? ⟨b, 7, none⟩ = false)
theorem Box8.new (w : World) : Box8 (w.alloc (.cells #[.int .i64 0, .int .i64 0, .int .i64 0, .int .i64 0, .int .i64 0, .int .i64 0, .int .i64 0, .bool false] 73)) w.heap.size := by
  refine ⟨?_, ?_⟩ <;> simp
theorem Box8.keep {w w' : World} {b B : Nat} (h : Box8 w b) (hb : Below B w w') (hlt : b < B) : Box8 w' b := by
  have hc : ∀ o, w'.cell? ⟨b, o, none⟩ = w.cell? ⟨b, o, none⟩ := fun o => hb.cell (p := ⟨b, o, none⟩) hlt
  have hf : ∀ o, w'.frozen? ⟨b, o, none⟩ = w.frozen? ⟨b, o, none⟩ := fun o => hb.frozen (p := ⟨b, o, none⟩) hlt
  unfold Box8
  simp only [hc, hf]
  exact h
theorem put8_cell (W : World) (b q o : Nat) (h : b ≠ q) (v0 v1 v2 v3 v4 v5 v6 v7 : Value) : ((((((((W.setCell ⟨b, 0, none⟩ (v0)).setCell ⟨b, 1, none⟩ (v1)).setCell ⟨b, 2, none⟩ (v2)).setCell ⟨b, 3, none⟩ (v3)).setCell ⟨b, 4, none⟩ (v4)).setCell ⟨b, 5, none⟩ (v5)).setCell ⟨b, 6, none⟩ (v6)).setCell ⟨b, 7, none⟩ (v7)).cell? ⟨q, o, none⟩ = W.cell? ⟨q, o, none⟩ := by
  have hf : ∀ (W : World) (i : Nat) (v : Value), (W.setCell ⟨b, i, none⟩ v).cell? ⟨q, o, none⟩ = W.cell? ⟨q, o, none⟩ := fun W i v => World.cell?_setCell_far W ⟨b, i, none⟩ ⟨q, o, none⟩ v h
  simp only [hf]
theorem put8_size (W : World) (b : Nat) (v0 v1 v2 v3 v4 v5 v6 v7 : Value) : ((((((((W.setCell ⟨b, 0, none⟩ (v0)).setCell ⟨b, 1, none⟩ (v1)).setCell ⟨b, 2, none⟩ (v2)).setCell ⟨b, 3, none⟩ (v3)).setCell ⟨b, 4, none⟩ (v4)).setCell ⟨b, 5, none⟩ (v5)).setCell ⟨b, 6, none⟩ (v6)).setCell ⟨b, 7, none⟩ (v7)).heap.size = W.heap.size := by simp
theorem put8_at (W : World) (b : Nat) (h : Box8 W b) (v0 v1 v2 v3 v4 v5 v6 v7 : Value) : ((((((((W.setCell ⟨b, 0, none⟩ (v0)).setCell ⟨b, 1, none⟩ (v1)).setCell ⟨b, 2, none⟩ (v2)).setCell ⟨b, 3, none⟩ (v3)).setCell ⟨b, 4, none⟩ (v4)).setCell ⟨b, 5, none⟩ (v5)).setCell ⟨b, 6, none⟩ (v6)).setCell ⟨b, 7, none⟩ (v7)).cell? ⟨b, 0, none⟩ = some v0 ∧ ((((((((W.setCell ⟨b, 0, none⟩ (v0)).setCell ⟨b, 1, none⟩ (v1)).setCell ⟨b, 2, none⟩ (v2)).setCell ⟨b, 3, none⟩ (v3)).setCell ⟨b, 4, none⟩ (v4)).setCell ⟨b, 5, none⟩ (v5)).setCell ⟨b, 6, none⟩ (v6)).setCell ⟨b, 7, none⟩ (v7)).cell? ⟨b, 1, none⟩ = some v1 ∧ ((((((((W.setCell ⟨b, 0, none⟩ (v0)).setCell ⟨b, 1, none⟩ (v1)).setCell ⟨b, 2, none⟩ (v2)).setCell ⟨b, 3, none⟩ (v3)).setCell ⟨b, 4, none⟩ (v4)).setCell ⟨b, 5, none⟩ (v5)).setCell ⟨b, 6, none⟩ (v6)).setCell ⟨b, 7, none⟩ (v7)).cell? ⟨b, 2, none⟩ = some v2 ∧ ((((((((W.setCell ⟨b, 0, none⟩ (v0)).setCell ⟨b, 1, none⟩ (v1)).setCell ⟨b, 2, none⟩ (v2)).setCell ⟨b, 3, none⟩ (v3)).setCell ⟨b, 4, none⟩ (v4)).setCell ⟨b, 5, none⟩ (v5)).setCell ⟨b, 6, none⟩ (v6)).setCell ⟨b, 7, none⟩ (v7)).cell? ⟨b, 3, none⟩ = some v3 ∧ ((((((((W.setCell ⟨b, 0, none⟩ (v0)).setCell ⟨b, 1, none⟩ (v1)).setCell ⟨b, 2, none⟩ (v2)).setCell ⟨b, 3, none⟩ (v3)).setCell ⟨b, 4, none⟩ (v4)).setCell ⟨b, 5, none⟩ (v5)).setCell ⟨b, 6, none⟩ (v6)).setCell ⟨b, 7, none⟩ (v7)).cell? ⟨b, 4, none⟩ = some v4 ∧ ((((((((W.setCell ⟨b, 0, none⟩ (v0)).setCell ⟨b, 1, none⟩ (v1)).setCell ⟨b, 2, none⟩ (v2)).setCell ⟨b, 3, none⟩ (v3)).setCell ⟨b, 4, none⟩ (v4)).setCell ⟨b, 5, none⟩ (v5)).setCell ⟨b, 6, none⟩ (v6)).setCell ⟨b, 7, none⟩ (v7)).cell? ⟨b, 5, none⟩ = some v5 ∧ ((((((((W.setCell ⟨b, 0, none⟩ (v0)).setCell ⟨b, 1, none⟩ (v1)).setCell ⟨b, 2, none⟩ (v2)).setCell ⟨b, 3, none⟩ (v3)).setCell ⟨b, 4, none⟩ (v4)).setCell ⟨b, 5, none⟩ (v5)).setCell ⟨b, 6, none⟩ (v6)).setCell ⟨b, 7, none⟩ (v7)).cell? ⟨b, 6, none⟩ = some v6 ∧ ((((((((W.setCell ⟨b, 0, none⟩ (v0)).setCell ⟨b, 1, none⟩ (v1)).setCell ⟨b, 2, none⟩ (v2)).setCell ⟨b, 3, none⟩ (v3)).setCell ⟨b, 4, none⟩ (v4)).setCell ⟨b, 5, none⟩ (v5)).setCell ⟨b, 6, none⟩ (v6)).setCell ⟨b, 7, none⟩ (v7)).cell? ⟨b, 7, none⟩ = some v7 := by
  obtain ⟨⟨k0, k1, k2, k3, k4, k5, k6, k7⟩, _⟩ := h
  refine ⟨?_, ?_, ?_, ?_, ?_, ?_, ?_, ?_⟩ <;> simp [go_sem, k0, k1, k2, k3, k4, k5, k6, k7]

set_option maxRecDepth 100000 in
set_option maxHeartbeats 8000000 in
theorem rstep_go0 (b off n cap k : Nat) (oa ob oc got nx sv : Int) (c c' : Nat → Int) (w : World) (hk : k < n) (hblt : b < w.heap.size)
    (hc0 : w.cell? ⟨b, off + k * 3, none⟩ = some (.int .i64 oa)) (hc1 : w.cell? ⟨b, off + k * 3 + 1, none⟩ = some (.int .i64 ob)) (hc2 : w.cell? ⟨b, off + k * 3 + 2, none⟩ = some (.int .i64 oc))
    (hnext : ∀ W, Calls Tryz.prog 120 #[.agg #[.int .i64 oa, .int .i64 ob, .int .i64 oc], .agg #[.int .i64 k, .int .i64 (c 0), .int .i64 (c 1), .int .i64 (c 2), .int .i64 (c 3), .int .i64 (c 4), .int .i64 (c 5), .bool false], .int .i64 n, .bool false] W fun e w' => e = .returned (.int .i64 nx) ∧ Below W.heap.size W w')
    (hcells : ∀ W, Calls Tryz.prog 121 #[.agg #[.int .i64 oa, .int .i64 ob, .int .i64 oc], .agg #[.int .i64 (c 0), .int .i64 (c 1), .int .i64 (c 2), .int .i64 (c 3), .int .i64 (c 4), .int .i64 (c 5)], .int .i64 got, .bool false] W fun e w' => e = .returned (.agg #[.int .i64 (c' 0), .int .i64 (c' 1), .int .i64 (c' 2), .int .i64 (c' 3), .int .i64 (c' 4), .int .i64 (c' 5)]) ∧ Below W.heap.size W w')
    (hsent : ∀ W, Calls Tryz.prog 122 #[.agg #[.int .i64 oa, .int .i64 ob, .int .i64 oc], .agg #[.int .i64 (c 0), .int .i64 (c 1), .int .i64 (c 2), .int .i64 (c 3), .int .i64 (c 4), .int .i64 (c 5)]] W fun e w' => e = .returned (.int .i64 sv) ∧ Below W.heap.size W w')
    (hchk : Calls Tryz.prog 115 #[.slice (some ⟨b, off, none⟩) n cap, stV ⟨k, c, false⟩] (W2 w ⟨k, c, false⟩) fun ev w' => ev = .returned (.nilIface) ∧ Below (w.heap.size + 1 + 1) (W2 w ⟨k, c, false⟩) w') :
    Calls Tryz.prog 82 #[.slice (some ⟨b, off, none⟩) n cap, stV ⟨k, c, false⟩, .int .i64 got, .bool false] w fun ev w' => ev = .returned (.tuple #[stV ⟨nx, c', oa == 11⟩, .int .i64 sv, .nilIface]) ∧ Below w.heap.size w w' := by
  simp only [stV, W2] at hchk ⊢
  have hki : (k : Int) < (n : Int) := by omega
  go_enter Tryz.func82, Tryz.ntmps82
  go_wp2_with (first | (go_at_call 115; refine hchk.mono ?_; rintro ev w1 ⟨rfl, b1⟩; clear hchk; obtain ⟨⟨e0, e1, e2, e3, e4, e5, e6, e7⟩, hd, hf, hsz, bw⟩ := w2_box (s := ⟨k, c, false⟩) b1; have D1 : Box8 w1 (w.heap.size + 1) := ⟨hd, hf⟩; clear hd hf; have g0 := w2_keep (s := ⟨k, c, false⟩) b1 hblt hc0; have g1 := w2_keep (s := ⟨k, c, false⟩) b1 hblt hc1; have g2 := w2_keep (s := ⟨k, c, false⟩) b1 hblt hc2; clear hc0 hc1 hc2 b1))
  obtain ⟨W1, hW1⟩ : ∃ W1, W1 = w1.alloc (.cells #[.int .i64 oa, .int .i64 ob, .int .i64 oc] 28) := ⟨_, rfl⟩
  rw [← hW1]
  have hszW : W1.heap.size = w1.heap.size + 1 := by rw [hW1]; simp
  have DW1 : Box8 W1 (w.heap.size + 1) := by
    rw [hW1]
    exact D1.keep (B := w1.heap.size) ((Below.refl _ _).alloc (Nat.le_refl _) _) hsz
  have SOF : Hid (∀ w', Below (w1.heap.size + 1) W1 w' → ((w'.cell? ⟨w.heap.size, 0, none⟩ = some (.int .i64 k) ∧ w'.cell? ⟨w.heap.size, 1, none⟩ = some (.int .i64 (c 0)) ∧ w'.cell? ⟨w.heap.size, 2, none⟩ = some (.int .i64 (c 1)) ∧ w'.cell? ⟨w.heap.size, 3, none⟩ = some (.int .i64 (c 2)) ∧ w'.cell? ⟨w.heap.size, 4, none⟩ = some (.int .i64 (c 3)) ∧ w'.cell? ⟨w.heap.size, 5, none⟩ = some (.int .i64 (c 4)) ∧ w'.cell? ⟨w.heap.size, 6, none⟩ = some (.int .i64 (c 5)) ∧ w'.cell? ⟨w.heap.size, 7, none⟩ = some (.bool false)) ∧ (w'.cell? ⟨w1.heap.size, 0, none⟩ = some (.int .i64 oa) ∧ w'.cell? ⟨w1.heap.size, 1, none⟩ = some (.int .i64 ob) ∧ w'.cell? ⟨w1.heap.size, 2, none⟩ = some (.int .i64 oc)))) := by
    intro w' hb
    have hc : ∀ b o, b < w1.heap.size + 1 → w'.cell? ⟨b, o, none⟩ = W1.cell? ⟨b, o, none⟩ := fun b o h => hb.cell (p := ⟨b, o, none⟩) h
    refine ⟨?_, ?_⟩
    · simp only [hc w.heap.size _ (by omega)]
      rw [hW1]
      have hn : w.heap.size < w1.heap.size := by omega
      have ha : ∀ o, (w1.alloc (.cells #[.int .i64 oa, .int .i64 ob, .int .i64 oc] 28)).cell? ⟨w.heap.size, o, none⟩ = w1.cell? ⟨w.heap.size, o, none⟩ := fun o => World.cell?_alloc_lt _ _ ⟨w.heap.size, o, none⟩ hn
      simp only [ha]
      exact ⟨e0, e1, e2, e3, e4, e5, e6, e7⟩
    · simp only [hc w1.heap.size _ (by omega)]
      rw [hW1]
      simp
  have BW1 : Below w.heap.size w W1 := by rw [hW1]; exact bw.alloc (by omega) _
  clear hW1 D1 e0 e1 e2 e3 e4 e5 e6 e7 g0 g1 g2
  go_region_held3 (fun w' => (w'.cell? ⟨w.heap.size, 0, none⟩ = some (.int .i64 k) ∧ w'.cell? ⟨w.heap.size, 1, none⟩ = some (.int .i64 (c 0)) ∧ w'.cell? ⟨w.heap.size, 2, none⟩ = some (.int .i64 (c 1)) ∧ w'.cell? ⟨w.heap.size, 3, none⟩ = some (.int .i64 (c 2)) ∧ w'.cell? ⟨w.heap.size, 4, none⟩ = some (.int .i64 (c 3)) ∧ w'.cell? ⟨w.heap.size, 5, none⟩ = some (.int .i64 (c 4)) ∧ w'.cell? ⟨w.heap.size, 6, none⟩ = some (.int .i64 (c 5)) ∧ w'.cell? ⟨w.heap.size, 7, none⟩ = some (.bool false)) ∧ (w'.cell? ⟨w1.heap.size, 0, none⟩ = some (.int .i64 oa) ∧ w'.cell? ⟨w1.heap.size, 1, none⟩ = some (.int .i64 ob) ∧ w'.cell? ⟨w1.heap.size, 2, none⟩ = some (.int .i64 oc)))
    (first
      | (with_reducible refine SOF.out _ (put8_below Bc ?_ _ _ _ _ _ _ _ _); have h1 := Bn.size; have h2 := Bc.size; omega)
      | (with_reducible exact SOF.out _ (Below.refl _ _).drew)
      | (with_reducible exact SOF.out _ Bc)
      | (with_reducible exact SOF.out _ Bn)
      | (with_reducible refine SOF.out _ ((Below.refl _ _).drew.alloc ?_ _); simp <;> omega)
      | (with_reducible refine SOF.out _ (Bn.alloc ?_ _); have := Bn.size; omega)
      | (with_reducible refine SOF.out _ (Bc.alloc ?_ _); have := Bc.size; omega))
    (first
      | (go_at_call 120; refine (hnext W1.drew).mono ?_; rintro e wn ⟨rfl, bn⟩; have Bn : Below (w1.heap.size + 1) W1 wn := (Below.refl _ _).drew.trans (bn.mono (by simp <;> omega)))
      | (go_at_call 120; refine (hnext (W1.drew.alloc (.cells #[.int .i64 0, .int .i64 0, .int .i64 0, .int .i64 0, .int .i64 0, .int .i64 0, .int .i64 0, .bool false] 73))).mono ?_; rintro e wn ⟨rfl, bn⟩; have Bn : Below (w1.heap.size + 1) W1 wn := ((Below.refl _ _).drew.alloc (by simp <;> omega) _).trans (bn.mono (by simp <;> omega)); have X : Box8 wn (w1.heap.size + 1) := (by have h := (Box8.new W1.drew).keep bn (by simp); simpa [hszW] using h); have hwn : w1.heap.size + 1 < wn.heap.size := (by have h := bn.size; rw [World.size_alloc] at h; have h2 : W1.drew.heap.size = W1.heap.size := rfl; omega))
      | (go_at_call 121; refine (hcells wn).mono ?_; rintro e wc ⟨rfl, bc⟩; have XC := X.keep bc hwn; clear X; obtain ⟨⟨k0, k1, k2, k3, k4, k5, k6, k7⟩, ⟨j0, j1, j2, j3, j4, j5, j6, j7⟩⟩ := XC; have Bc : Below (w1.heap.size + 1) W1 wc := Bn.trans (bc.mono (by have := Bn.size; omega)))
      | (go_at_call 121; refine (hcells wn).mono ?_; rintro e wc ⟨rfl, bc⟩; have Bc : Below (w1.heap.size + 1) W1 wc := Bn.trans (bc.mono (by have := Bn.size; omega)))
      | (go_at_call 121; refine (hcells (wn.alloc (.cells #[.int .i64 0, .int .i64 0, .int .i64 0, .int .i64 0, .int .i64 0, .int .i64 0, .int .i64 0, .bool false] 73))).mono ?_; rintro e wc ⟨rfl, bc⟩; have XC := (Box8.new wn).keep bc (by simp); obtain ⟨⟨k0, k1, k2, k3, k4, k5, k6, k7⟩, ⟨j0, j1, j2, j3, j4, j5, j6, j7⟩⟩ := XC; have Bc : Below (w1.heap.size + 1) W1 wc := (Bn.alloc (by have := Bn.size; omega) _).trans (bc.mono (by have := Bn.size; simp; omega))))
  · go_wp2_with fail
    obtain ⟨tb, htb⟩ : ∃ tb, tb = wc.heap.size := ⟨_, rfl⟩
    obtain ⟨W3, hW3⟩ : ∃ W3, W3 = wc.alloc (.cells #[.int .i64 nx, .int .i64 (c' 0), .int .i64 (c' 1), .int .i64 (c' 2), .int .i64 (c' 3), .int .i64 (c' 4), .int .i64 (c' 5), .bool (oa == 11)] 73) := ⟨_, rfl⟩
    have B3 : Below (w1.heap.size + 1) W1 W3 := by rw [hW3]; exact (Bc.alloc (by have := Bc.size; omega) _)
    have T3 : W3.cell? ⟨tb, 0, none⟩ = some (.int .i64 nx) ∧ W3.cell? ⟨tb, 1, none⟩ = some (.int .i64 (c' 0)) ∧ W3.cell? ⟨tb, 2, none⟩ = some (.int .i64 (c' 1)) ∧ W3.cell? ⟨tb, 3, none⟩ = some (.int .i64 (c' 2)) ∧ W3.cell? ⟨tb, 4, none⟩ = some (.int .i64 (c' 3)) ∧ W3.cell? ⟨tb, 5, none⟩ = some (.int .i64 (c' 4)) ∧ W3.cell? ⟨tb, 6, none⟩ = some (.int .i64 (c' 5)) ∧ W3.cell? ⟨tb, 7, none⟩ = some (.bool (oa == 11)) := by rw [hW3, htb]; exact (by simp)
    have hle : w1.heap.size + 1 ≤ tb := by rw [htb]; exact (by have := Bc.size; omega)
    have hlt : tb < W3.heap.size := by rw [hW3, htb]; exact (by simp)
    rw [← hW3, ← htb]
    clear hW3 htb
    obtain ⟨t0, t1, t2, t3, t4, t5, t6, t7⟩ := T3
    have SOF2 : Hid (∀ w', Below (tb + 1) W3 w' → ((w'.cell? ⟨tb, 0, none⟩ = some (.int .i64 nx) ∧ w'.cell? ⟨tb, 1, none⟩ = some (.int .i64 (c' 0)) ∧ w'.cell? ⟨tb, 2, none⟩ = some (.int .i64 (c' 1)) ∧ w'.cell? ⟨tb, 3, none⟩ = some (.int .i64 (c' 2)) ∧ w'.cell? ⟨tb, 4, none⟩ = some (.int .i64 (c' 3)) ∧ w'.cell? ⟨tb, 5, none⟩ = some (.int .i64 (c' 4)) ∧ w'.cell? ⟨tb, 6, none⟩ = some (.int .i64 (c' 5)) ∧ w'.cell? ⟨tb, 7, none⟩ = some (.bool (oa == 11))) ∧ (w'.cell? ⟨w.heap.size, 0, none⟩ = some (.int .i64 k) ∧ w'.cell? ⟨w.heap.size, 1, none⟩ = some (.int .i64 (c 0)) ∧ w'.cell? ⟨w.heap.size, 2, none⟩ = some (.int .i64 (c 1)) ∧ w'.cell? ⟨w.heap.size, 3, none⟩ = some (.int .i64 (c 2)) ∧ w'.cell? ⟨w.heap.size, 4, none⟩ = some (.int .i64 (c 3)) ∧ w'.cell? ⟨w.heap.size, 5, none⟩ = some (.int .i64 (c 4)) ∧ w'.cell? ⟨w.heap.size, 6, none⟩ = some (.int .i64 (c 5)) ∧ w'.cell? ⟨w.heap.size, 7, none⟩ = some (.bool false)) ∧ (w'.cell? ⟨w1.heap.size, 0, none⟩ = some (.int .i64 oa) ∧ w'.cell? ⟨w1.heap.size, 1, none⟩ = some (.int .i64 ob) ∧ w'.cell? ⟨w1.heap.size, 2, none⟩ = some (.int .i64 oc)))) := by
      intro w' hb
      have hc : ∀ b o, b < tb + 1 → w'.cell? ⟨b, o, none⟩ = W3.cell? ⟨b, o, none⟩ := fun b o h => hb.cell (p := ⟨b, o, none⟩) h
      refine ⟨?_, ?_⟩
      · simp only [hc tb _ (by omega)]
        exact ⟨t0, t1, t2, t3, t4, t5, t6, t7⟩
      · simp only [hc w.heap.size _ (by omega), hc w1.heap.size _ (by omega)]
        exact SOF.out _ B3
    have n1 : w.heap.size + 1 ≠ tb := by omega
    have n2 : w.heap.size + 1 ≠ w1.heap.size := by omega
    have n3 : w.heap.size + 1 ≠ w.heap.size := by omega
    have DW3 : Box8 W3 (w.heap.size + 1) := DW1.keep B3 (by omega)
    have BW3 : Below w.heap.size w W3 := BW1.trans (B3.mono (by omega))
    clear t0 t1 t2 t3 t4 t5 t6 t7 B3 DW1 BW1 SOF hnext hcells
    go_region_held3 (fun w' => (w'.cell? ⟨tb, 0, none⟩ = some (.int .i64 nx) ∧ w'.cell? ⟨tb, 1, none⟩ = some (.int .i64 (c' 0)) ∧ w'.cell? ⟨tb, 2, none⟩ = some (.int .i64 (c' 1)) ∧ w'.cell? ⟨tb, 3, none⟩ = some (.int .i64 (c' 2)) ∧ w'.cell? ⟨tb, 4, none⟩ = some (.int .i64 (c' 3)) ∧ w'.cell? ⟨tb, 5, none⟩ = some (.int .i64 (c' 4)) ∧ w'.cell? ⟨tb, 6, none⟩ = some (.int .i64 (c' 5)) ∧ w'.cell? ⟨tb, 7, none⟩ = some (.bool (oa == 11))) ∧ (w'.cell? ⟨w.heap.size, 0, none⟩ = some (.int .i64 k) ∧ w'.cell? ⟨w.heap.size, 1, none⟩ = some (.int .i64 (c 0)) ∧ w'.cell? ⟨w.heap.size, 2, none⟩ = some (.int .i64 (c 1)) ∧ w'.cell? ⟨w.heap.size, 3, none⟩ = some (.int .i64 (c 2)) ∧ w'.cell? ⟨w.heap.size, 4, none⟩ = some (.int .i64 (c 3)) ∧ w'.cell? ⟨w.heap.size, 5, none⟩ = some (.int .i64 (c 4)) ∧ w'.cell? ⟨w.heap.size, 6, none⟩ = some (.int .i64 (c 5)) ∧ w'.cell? ⟨w.heap.size, 7, none⟩ = some (.bool false)) ∧ (w'.cell? ⟨w1.heap.size, 0, none⟩ = some (.int .i64 oa) ∧ w'.cell? ⟨w1.heap.size, 1, none⟩ = some (.int .i64 ob) ∧ w'.cell? ⟨w1.heap.size, 2, none⟩ = some (.int .i64 oc)))
      (first
        | (simp only [put8_cell _ _ _ _ n1, put8_cell _ _ _ _ n2, put8_cell _ _ _ _ n3]; with_reducible exact SOF2.out _ Bs)
        | (with_reducible exact SOF2.out _ (Below.refl _ _).drew)
        | (with_reducible exact SOF2.out _ Bs))
      (first
        | (go_at_call 122; refine (hsent W3.drew).mono ?_; rintro e ws ⟨rfl, bs⟩; have Bs : Below (tb + 1) W3 ws := (Below.refl _ _).drew.trans (bs.mono hlt); have XS := DW3.keep Bs (by omega); obtain ⟨⟨q0, q1, q2, q3, q4, q5, q6, q7⟩, ⟨r0, r1, r2, r3, r4, r5, r6, r7⟩⟩ := XS))
    go_wp2
    refine bodyPost_ret (v := .tuple #[stV ⟨nx, c', oa == 11⟩, .int .i64 sv, .nilIface]) ?_ rfl ⟨rfl, ?_⟩
    · simp [results, Tryz.results82, go_sem, q0, q1, q2, q3, q4, q5, q6, q7, stV]
    · exact put8_below (BW3.trans (Bs.mono (by omega))) (Nat.le_succ _) _ _ _ _ _ _ _ _
  · go_wp2_with fail
    obtain ⟨tb, htb⟩ : ∃ tb, tb = wn.heap.size := ⟨_, rfl⟩
    obtain ⟨W3, hW3⟩ : ∃ W3, W3 = ((((((((wc.setCell ⟨wn.heap.size, 0, none⟩ (.int .i64 nx)).setCell ⟨wn.heap.size, 1, none⟩ (.int .i64 (c' 0))).setCell ⟨wn.heap.size, 2, none⟩ (.int .i64 (c' 1))).setCell ⟨wn.heap.size, 3, none⟩ (.int .i64 (c' 2))).setCell ⟨wn.heap.size, 4, none⟩ (.int .i64 (c' 3))).setCell ⟨wn.heap.size, 5, none⟩ (.int .i64 (c' 4))).setCell ⟨wn.heap.size, 6, none⟩ (.int .i64 (c' 5))).setCell ⟨wn.heap.size, 7, none⟩ (.bool (oa == 11))) := ⟨_, rfl⟩
    have B3 : Below (w1.heap.size + 1) W1 W3 := by rw [hW3]; exact (put8_below Bc (by have := Bn.size; omega) _ _ _ _ _ _ _ _)
    have T3 : W3.cell? ⟨tb, 0, none⟩ = some (.int .i64 nx) ∧ W3.cell? ⟨tb, 1, none⟩ = some (.int .i64 (c' 0)) ∧ W3.cell? ⟨tb, 2, none⟩ = some (.int .i64 (c' 1)) ∧ W3.cell? ⟨tb, 3, none⟩ = some (.int .i64 (c' 2)) ∧ W3.cell? ⟨tb, 4, none⟩ = some (.int .i64 (c' 3)) ∧ W3.cell? ⟨tb, 5, none⟩ = some (.int .i64 (c' 4)) ∧ W3.cell? ⟨tb, 6, none⟩ = some (.int .i64 (c' 5)) ∧ W3.cell? ⟨tb, 7, none⟩ = some (.bool (oa == 11)) := by rw [hW3, htb]; exact (put8_at wc wn.heap.size ⟨⟨k0, k1, k2, k3, k4, k5, k6, k7⟩, ⟨j0, j1, j2, j3, j4, j5, j6, j7⟩⟩ _ _ _ _ _ _ _ _)
    have hle : w1.heap.size + 1 ≤ tb := by rw [htb]; exact (by have := Bn.size; omega)
    have hlt : tb < W3.heap.size := by rw [hW3, htb]; exact (by rw [put8_size]; have h := bc.size; rw [World.size_alloc] at h; omega)
    rw [← hW3, ← htb]
    clear hW3 htb
    obtain ⟨t0, t1, t2, t3, t4, t5, t6, t7⟩ := T3
    have SOF2 : Hid (∀ w', Below (tb + 1) W3 w' → ((w'.cell? ⟨tb, 0, none⟩ = some (.int .i64 nx) ∧ w'.cell? ⟨tb, 1, none⟩ = some (.int .i64 (c' 0)) ∧ w'.cell? ⟨tb, 2, none⟩ = some (.int .i64 (c' 1)) ∧ w'.cell? ⟨tb, 3, none⟩ = some (.int .i64 (c' 2)) ∧ w'.cell? ⟨tb, 4, none⟩ = some (.int .i64 (c' 3)) ∧ w'.cell? ⟨tb, 5, none⟩ = some (.int .i64 (c' 4)) ∧ w'.cell? ⟨tb, 6, none⟩ = some (.int .i64 (c' 5)) ∧ w'.cell? ⟨tb, 7, none⟩ = some (.bool (oa == 11))) ∧ (w'.cell? ⟨w.heap.size, 0, none⟩ = some (.int .i64 k) ∧ w'.cell? ⟨w.heap.size, 1, none⟩ = some (.int .i64 (c 0)) ∧ w'.cell? ⟨w.heap.size, 2, none⟩ = some (.int .i64 (c 1)) ∧ w'.cell? ⟨w.heap.size, 3, none⟩ = some (.int .i64 (c 2)) ∧ w'.cell? ⟨w.heap.size, 4, none⟩ = some (.int .i64 (c 3)) ∧ w'.cell? ⟨w.heap.size, 5, none⟩ = some (.int .i64 (c 4)) ∧ w'.cell? ⟨w.heap.size, 6, none⟩ = some (.int .i64 (c 5)) ∧ w'.cell? ⟨w.heap.size, 7, none⟩ = some (.bool false)) ∧ (w'.cell? ⟨w1.heap.size, 0, none⟩ = some (.int .i64 oa) ∧ w'.cell? ⟨w1.heap.size, 1, none⟩ = some (.int .i64 ob) ∧ w'.cell? ⟨w1.heap.size, 2, none⟩ = some (.int .i64 oc)))) := by
      intro w' hb
      have hc : ∀ b o, b < tb + 1 → w'.cell? ⟨b, o, none⟩ = W3.cell? ⟨b, o, none⟩ := fun b o h => hb.cell (p := ⟨b, o, none⟩) h
      refine ⟨?_, ?_⟩
      · simp only [hc tb _ (by omega)]
        exact ⟨t0, t1, t2, t3, t4, t5, t6, t7⟩
      · simp only [hc w.heap.size _ (by omega), hc w1.heap.size _ (by omega)]
        exact SOF.out _ B3
    have n1 : w.heap.size + 1 ≠ tb := by omega
    have n2 : w.heap.size + 1 ≠ w1.heap.size := by omega
    have n3 : w.heap.size + 1 ≠ w.heap.size := by omega
    have DW3 : Box8 W3 (w.heap.size + 1) := DW1.keep B3 (by omega)
    have BW3 : Below w.heap.size w W3 := BW1.trans (B3.mono (by omega))
    clear t0 t1 t2 t3 t4 t5 t6 t7 B3 DW1 BW1 SOF hnext hcells
    go_region_held3 (fun w' => (w'.cell? ⟨tb, 0, none⟩ = some (.int .i64 nx) ∧ w'.cell? ⟨tb, 1, none⟩ = some (.int .i64 (c' 0)) ∧ w'.cell? ⟨tb, 2, none⟩ = some (.int .i64 (c' 1)) ∧ w'.cell? ⟨tb, 3, none⟩ = some (.int .i64 (c' 2)) ∧ w'.cell? ⟨tb, 4, none⟩ = some (.int .i64 (c' 3)) ∧ w'.cell? ⟨tb, 5, none⟩ = some (.int .i64 (c' 4)) ∧ w'.cell? ⟨tb, 6, none⟩ = some (.int .i64 (c' 5)) ∧ w'.cell? ⟨tb, 7, none⟩ = some (.bool (oa == 11))) ∧ (w'.cell? ⟨w.heap.size, 0, none⟩ = some (.int .i64 k) ∧ w'.cell? ⟨w.heap.size, 1, none⟩ = some (.int .i64 (c 0)) ∧ w'.cell? ⟨w.heap.size, 2, none⟩ = some (.int .i64 (c 1)) ∧ w'.cell? ⟨w.heap.size, 3, none⟩ = some (.int .i64 (c 2)) ∧ w'.cell? ⟨w.heap.size, 4, none⟩ = some (.int .i64 (c 3)) ∧ w'.cell? ⟨w.heap.size, 5, none⟩ = some (.int .i64 (c 4)) ∧ w'.cell? ⟨w.heap.size, 6, none⟩ = some (.int .i64 (c 5)) ∧ w'.cell? ⟨w.heap.size, 7, none⟩ = some (.bool false)) ∧ (w'.cell? ⟨w1.heap.size, 0, none⟩ = some (.int .i64 oa) ∧ w'.cell? ⟨w1.heap.size, 1, none⟩ = some (.int .i64 ob) ∧ w'.cell? ⟨w1.heap.size, 2, none⟩ = some (.int .i64 oc)))
      (first
        | (simp only [put8_cell _ _ _ _ n1, put8_cell _ _ _ _ n2, put8_cell _ _ _ _ n3]; with_reducible exact SOF2.out _ Bs)
        | (with_reducible exact SOF2.out _ (Below.refl _ _).drew)
        | (with_reducible exact SOF2.out _ Bs))
      (first
        | (go_at_call 122; refine (hsent W3.drew).mono ?_; rintro e ws ⟨rfl, bs⟩; have Bs : Below (tb + 1) W3 ws := (Below.refl _ _).drew.trans (bs.mono hlt); have XS := DW3.keep Bs (by omega); obtain ⟨⟨q0, q1, q2, q3, q4, q5, q6, q7⟩, ⟨r0, r1, r2, r3, r4, r5, r6, r7⟩⟩ := XS))
    go_wp2
    refine bodyPost_ret (v := .tuple #[stV ⟨nx, c', oa == 11⟩, .int .i64 sv, .nilIface]) ?_ rfl ⟨rfl, ?_⟩
    · simp [results, Tryz.results82, go_sem, q0, q1, q2, q3, q4, q5, q6, q7, stV]
    · exact put8_below (BW3.trans (Bs.mono (by omega))) (Nat.le_succ _) _ _ _ _ _ _ _ _
  · go_wp2_with fail
    obtain ⟨tb, htb⟩ : ∃ tb, tb = (w1.heap.size + 1) := ⟨_, rfl⟩
    obtain ⟨W3, hW3⟩ : ∃ W3, W3 = ((((((((wc.setCell ⟨(w1.heap.size + 1), 0, none⟩ (.int .i64 nx)).setCell ⟨(w1.heap.size + 1), 1, none⟩ (.int .i64 (c' 0))).setCell ⟨(w1.heap.size + 1), 2, none⟩ (.int .i64 (c' 1))).setCell ⟨(w1.heap.size + 1), 3, none⟩ (.int .i64 (c' 2))).setCell ⟨(w1.heap.size + 1), 4, none⟩ (.int .i64 (c' 3))).setCell ⟨(w1.heap.size + 1), 5, none⟩ (.int .i64 (c' 4))).setCell ⟨(w1.heap.size + 1), 6, none⟩ (.int .i64 (c' 5))).setCell ⟨(w1.heap.size + 1), 7, none⟩ (.bool (oa == 11))) := ⟨_, rfl⟩
    have B3 : Below (w1.heap.size + 1) W1 W3 := by rw [hW3]; exact (put8_below Bc (Nat.le_refl _) _ _ _ _ _ _ _ _)
    have T3 : W3.cell? ⟨tb, 0, none⟩ = some (.int .i64 nx) ∧ W3.cell? ⟨tb, 1, none⟩ = some (.int .i64 (c' 0)) ∧ W3.cell? ⟨tb, 2, none⟩ = some (.int .i64 (c' 1)) ∧ W3.cell? ⟨tb, 3, none⟩ = some (.int .i64 (c' 2)) ∧ W3.cell? ⟨tb, 4, none⟩ = some (.int .i64 (c' 3)) ∧ W3.cell? ⟨tb, 5, none⟩ = some (.int .i64 (c' 4)) ∧ W3.cell? ⟨tb, 6, none⟩ = some (.int .i64 (c' 5)) ∧ W3.cell? ⟨tb, 7, none⟩ = some (.bool (oa == 11)) := by rw [hW3, htb]; exact (put8_at wc (w1.heap.size + 1) ⟨⟨k0, k1, k2, k3, k4, k5, k6, k7⟩, ⟨j0, j1, j2, j3, j4, j5, j6, j7⟩⟩ _ _ _ _ _ _ _ _)
    have hle : w1.heap.size + 1 ≤ tb := by rw [htb]; exact (Nat.le_refl _)
    have hlt : tb < W3.heap.size := by rw [hW3, htb]; exact (by rw [put8_size]; have h := bc.size; omega)
    rw [← hW3, ← htb]
    clear hW3 htb
    obtain ⟨t0, t1, t2, t3, t4, t5, t6, t7⟩ := T3
    have SOF2 : Hid (∀ w', Below (tb + 1) W3 w' → ((w'.cell? ⟨tb, 0, none⟩ = some (.int .i64 nx) ∧ w'.cell? ⟨tb, 1, none⟩ = some (.int .i64 (c' 0)) ∧ w'.cell? ⟨tb, 2, none⟩ = some (.int .i64 (c' 1)) ∧ w'.cell? ⟨tb, 3, none⟩ = some (.int .i64 (c' 2)) ∧ w'.cell? ⟨tb, 4, none⟩ = some (.int .i64 (c' 3)) ∧ w'.cell? ⟨tb, 5, none⟩ = some (.int .i64 (c' 4)) ∧ w'.cell? ⟨tb, 6, none⟩ = some (.int .i64 (c' 5)) ∧ w'.cell? ⟨tb, 7, none⟩ = some (.bool (oa == 11))) ∧ (w'.cell? ⟨w.heap.size, 0, none⟩ = some (.int .i64 k) ∧ w'.cell? ⟨w.heap.size, 1, none⟩ = some (.int .i64 (c 0)) ∧ w'.cell? ⟨w.heap.size, 2, none⟩ = some (.int .i64 (c 1)) ∧ w'.cell? ⟨w.heap.size, 3, none⟩ = some (.int .i64 (c 2)) ∧ w'.cell? ⟨w.heap.size, 4, none⟩ = some (.int .i64 (c 3)) ∧ w'.cell? ⟨w.heap.size, 5, none⟩ = some (.int .i64 (c 4)) ∧ w'.cell? ⟨w.heap.size, 6, none⟩ = some (.int .i64 (c 5)) ∧ w'.cell? ⟨w.heap.size, 7, none⟩ = some (.bool false)) ∧ (w'.cell? ⟨w1.heap.size, 0, none⟩ = some (.int .i64 oa) ∧ w'.cell? ⟨w1.heap.size, 1, none⟩ = some (.int .i64 ob) ∧ w'.cell? ⟨w1.heap.size, 2, none⟩ = some (.int .i64 oc)))) := by
      intro w' hb
      have hc : ∀ b o, b < tb + 1 → w'.cell? ⟨b, o, none⟩ = W3.cell? ⟨b, o, none⟩ := fun b o h => hb.cell (p := ⟨b, o, none⟩) h
      refine ⟨?_, ?_⟩
      · simp only [hc tb _ (by omega)]
        exact ⟨t0, t1, t2, t3, t4, t5, t6, t7⟩
      · simp only [hc w.heap.size _ (by omega), hc w1.heap.size _ (by omega)]
        exact SOF.out _ B3
    have n1 : w.heap.size + 1 ≠ tb := by omega
    have n2 : w.heap.size + 1 ≠ w1.heap.size := by omega
    have n3 : w.heap.size + 1 ≠ w.heap.size := by omega
    have DW3 : Box8 W3 (w.heap.size + 1) := DW1.keep B3 (by omega)
    have BW3 : Below w.heap.size w W3 := BW1.trans (B3.mono (by omega))
    clear t0 t1 t2 t3 t4 t5 t6 t7 B3 DW1 BW1 SOF hnext hcells
    go_region_held3 (fun w' => (w'.cell? ⟨tb, 0, none⟩ = some (.int .i64 nx) ∧ w'.cell? ⟨tb, 1, none⟩ = some (.int .i64 (c' 0)) ∧ w'.cell? ⟨tb, 2, none⟩ = some (.int .i64 (c' 1)) ∧ w'.cell? ⟨tb, 3, none⟩ = some (.int .i64 (c' 2)) ∧ w'.cell? ⟨tb, 4, none⟩ = some (.int .i64 (c' 3)) ∧ w'.cell? ⟨tb, 5, none⟩ = some (.int .i64 (c' 4)) ∧ w'.cell? ⟨tb, 6, none⟩ = some (.int .i64 (c' 5)) ∧ w'.cell? ⟨tb, 7, none⟩ = some (.bool (oa == 11))) ∧ (w'.cell? ⟨w.heap.size, 0, none⟩ = some (.int .i64 k) ∧ w'.cell? ⟨w.heap.size, 1, none⟩ = some (.int .i64 (c 0)) ∧ w'.cell? ⟨w.heap.size, 2, none⟩ = some (.int .i64 (c 1)) ∧ w'.cell? ⟨w.heap.size, 3, none⟩ = some (.int .i64 (c 2)) ∧ w'.cell? ⟨w.heap.size, 4, none⟩ = some (.int .i64 (c 3)) ∧ w'.cell? ⟨w.heap.size, 5, none⟩ = some (.int .i64 (c 4)) ∧ w'.cell? ⟨w.heap.size, 6, none⟩ = some (.int .i64 (c 5)) ∧ w'.cell? ⟨w.heap.size, 7, none⟩ = some (.bool false)) ∧ (w'.cell? ⟨w1.heap.size, 0, none⟩ = some (.int .i64 oa) ∧ w'.cell? ⟨w1.heap.size, 1, none⟩ = some (.int .i64 ob) ∧ w'.cell? ⟨w1.heap.size, 2, none⟩ = some (.int .i64 oc)))
      (first
        | (simp only [put8_cell _ _ _ _ n1, put8_cell _ _ _ _ n2, put8_cell _ _ _ _ n3]; with_reducible exact SOF2.out _ Bs)
        | (with_reducible exact SOF2.out _ (Below.refl _ _).drew)
        | (with_reducible exact SOF2.out _ Bs))
      (first
        | (go_at_call 122; refine (hsent W3.drew).mono ?_; rintro e ws ⟨rfl, bs⟩; have Bs : Below (tb + 1) W3 ws := (Below.refl _ _).drew.trans (bs.mono hlt); have XS := DW3.keep Bs (by omega); obtain ⟨⟨q0, q1, q2, q3, q4, q5, q6, q7⟩, ⟨r0, r1, r2, r3, r4, r5, r6, r7⟩⟩ := XS))
    go_wp2
    refine bodyPost_ret (v := .tuple #[stV ⟨nx, c', oa == 11⟩, .int .i64 sv, .nilIface]) ?_ rfl ⟨rfl, ?_⟩
    · simp [results, Tryz.results82, go_sem, q0, q1, q2, q3, q4, q5, q6, q7, stV]
    · exact put8_below (BW3.trans (Bs.mono (by omega))) (Nat.le_succ _) _ _ _ _ _ _ _ _
end Go.Proofs.YtajfgmlockjmhaiGreatDoor

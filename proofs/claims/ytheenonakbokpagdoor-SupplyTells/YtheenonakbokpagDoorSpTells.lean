/-
  The law SupplyTells, of what package supply promises.
-/
import Derived.Test.YtheenonakbokpagDoorSupCT
import Derived.Test.YtheenonakbokpagDoorSupCL
import Derived.Test.YtheenonakbokpagDoorSupCW
import Derived.Test.YtheenonakbokpagDoorRSup
import Derived.Test.YtheenonakbokpagDoorRefFrame2
import Derived.Deep.CutRange
import Derived.RangeFuncNested
namespace Go.Proofs.YtheenonakbokpagDoor
open Go.RowKit

/-- A room that there is not; numbers out of bounds. -/
def rB (r : Int) : Bool := decide (r < 0) || decide (4 < r)
def mB (m : Int) : Bool := decide (m < 0) || decide (2000 < m)
def fB (f m : Int) : Bool := (decide (f < 0) || decide (2000 < f)) || (decide (m < 0) || decide (2000 < m))
def tB (t : Int) : Bool := decide (t < 0) || decide (100 < t)
theorem supE_b (n : Int) (l : List S3) (r : Int) : supE n l r = if ((fchk n l).2 == 0 && rB r) = true then 1 else (fchk n l).2 := by
  unfold supE rB
  by_cases h : (fchk n l).2 = 0
  · rw [if_pos h]
    by_cases h2 : r < 0 ∨ 4 < r
    · rw [if_pos h2, if_pos (by simp [h]; omega)]
    · rw [if_neg h2, if_neg (by simp [h]; omega), h]
  · rw [if_neg h, if_neg (by simp [h])]
theorem turnsE_b (n : Int) (l : List S3) (r f m : Int) : turnsE n l r f m = if (supE n l r == 0 && fB f m) = true then 1 else supE n l r := by
  unfold turnsE fB
  by_cases h : supE n l r = 0
  · rw [if_pos h]
    by_cases h2 : f < 0 ∨ 2000 < f ∨ m < 0 ∨ 2000 < m
    · rw [if_pos h2, if_pos (by simp [h]; omega)]
    · rw [if_neg h2, if_neg (by simp [h]; omega), h]
  · rw [if_neg h, if_neg (by simp [h])]
theorem leastE_b (n : Int) (l : List S3) (r m : Int) : leastE n l r m = if (supE n l r == 0 && mB m) = true then 1 else supE n l r := by
  unfold leastE mB
  by_cases h : supE n l r = 0
  · rw [if_pos h]
    by_cases h2 : m < 0 ∨ 2000 < m
    · rw [if_pos h2, if_pos (by simp [h]; omega)]
    · rw [if_neg h2, if_neg (by simp [h]; omega), h]
  · rw [if_neg h, if_neg (by simp [h])]
/-- What is wrong with a wait, but for one that has no end. -/
def wait1 (n : Int) (l : List S3) (r t : Int) : Int := if (supE n l r == 0 && tB t) = true then 1 else supE n l r
theorem wait1_not {n : Int} {l : List S3} {r t : Int} (h : wait1 n l r t ≠ 0) : waitE n l r t = wait1 n l r t := by
  unfold wait1 tB at h ⊢
  unfold waitE
  by_cases h0 : supE n l r = 0
  · rw [if_pos h0]
    by_cases h2 : t < 0 ∨ 100 < t
    · rw [if_pos h2, if_pos (by simp [h0]; omega)]
    · rw [if_neg (by simp [h0]; omega)] at h
      exact absurd h0 h
  · rw [if_neg h0, if_neg (by simp [h0])]
theorem wait1_zero {n : Int} {l : List S3} {r t : Int} (h : wait1 n l r t = 0) : supE n l r = 0 ∧ 0 ≤ t ∧ t ≤ 100 ∧ waitE n l r t = if t ≠ 0 ∧ cnR (hasT n l r) 0 n.toNat = 0 then 5 else 0 := by
  unfold wait1 tB at h
  by_cases h0 : supE n l r = 0
  · by_cases h2 : t < 0 ∨ 100 < t
    · rw [if_pos (by simp [h0]; omega)] at h
      cases h
    · refine ⟨h0, by omega, by omega, ?_⟩
      unfold waitE
      rw [if_pos h0, if_neg h2]
  · rw [if_neg (by simp [h0])] at h
    exact absurd h h0
/-- The document's answers. -/
theorem rturns_v {n : Int} {l : List S3} {v : Value} {r f m : Int} {w : World} (hl : Sps w v l) (h : turnsE n l r f m = 0) : Calls Tryd.prog 17 #[.int .i64 n, v, .int .i64 r, .int .i64 f, .int .i64 m] w fun e w' => e = .returned (.int .i64 (turnsV n l r f m)) ∧ Below w.heap.size w w' := by
  obtain ⟨h1, h2, h3, h4, h5⟩ := turnsE_zero h
  have hf := fchk_zero (supE_zero h1).1
  obtain ⟨n, rfl⟩ : ∃ k : Nat, n = k := ⟨n.toNat, by omega⟩
  obtain ⟨f, rfl⟩ : ∃ k : Nat, f = k := ⟨f.toNat, by omega⟩
  obtain ⟨m, rfl⟩ : ∃ k : Nat, m = k := ⟨m.toNat, by omega⟩
  have := rturns_any n f m l v r w hl (by omega) (by omega) hf.2.2.1 (by omega) (by omega)
  unfold turnsV
  rw [if_pos h, Int.toNat_natCast, Int.toNat_natCast]
  exact this
theorem rleast_v {n : Int} {l : List S3} {v : Value} {r m : Int} {w : World} (hl : Sps w v l) (h : leastE n l r m = 0) : Calls Tryd.prog 19 #[.int .i64 n, v, .int .i64 r, .int .i64 m] w fun e w' => e = .returned (.int .i64 (leastV n l r m)) ∧ Below w.heap.size w w' := by
  obtain ⟨h1, h2, h3⟩ := leastE_zero h
  have hf := fchk_zero (supE_zero h1).1
  obtain ⟨n, rfl⟩ : ∃ k : Nat, n = k := ⟨n.toNat, by omega⟩
  obtain ⟨m, rfl⟩ : ∃ k : Nat, m = k := ⟨m.toNat, by omega⟩
  have := rleast_any n m l v r w hl (by omega) (by omega) hf.2.2.1 (by omega)
  unfold leastV
  rw [if_pos h, Int.toNat_natCast, Int.toNat_natCast]
  exact this
theorem rwait_v {n : Int} {l : List S3} {v : Value} {r t : Int} {w : World} (hl : Sps w v l) (h : wait1 n l r t = 0) : Calls Tryd.prog 21 #[.int .i64 n, v, .int .i64 r, .int .i64 t] w fun e w' => ∃ z : Int, e = .returned (.int .i64 z) ∧ Hid ((z = -1 ∧ waitE n l r t = 5) ∨ ∃ k : Nat, z = k ∧ waitE n l r t = 0 ∧ WaitIs (hasT n l r) n.toNat t.toNat k) ∧ Below w.heap.size w w' := by
  obtain ⟨h1, h2, h3, h4⟩ := wait1_zero h
  have hf := fchk_zero (supE_zero h1).1
  obtain ⟨n, rfl⟩ : ∃ k : Nat, n = k := ⟨n.toNat, by omega⟩
  obtain ⟨t, rfl⟩ : ∃ k : Nat, t = k := ⟨t.toNat, by omega⟩
  rw [Int.toNat_natCast] at h4
  by_cases ht : t = 0
  · subst ht
    rw [if_neg (by simp)] at h4
    refine (rwait_zero n v r w).mono ?_
    rintro e w' ⟨rfl, hb⟩
    exact ⟨0, rfl, Or.inr ⟨0, rfl, h4, wait_zero _ _⟩, hb⟩
  · by_cases hc : cnR (hasT n l r) 0 n = 0
    · rw [if_pos ⟨by omega, hc⟩] at h4
      refine (rwait_none n t l v r w hl (by omega) (by omega) hf.2.2.1 ht hc).mono ?_
      rintro e w' ⟨rfl, hb⟩
      exact ⟨-1, rfl, Or.inl ⟨rfl, h4⟩, hb⟩
    · rw [if_neg (fun e => hc e.2)] at h4
      refine (rwait_ok n t l v r w hl (by omega) (by omega) hf.2.2.1 ht (by omega) (by omega)).mono ?_
      rintro e w' ⟨k, rfl, hk, hb⟩
      exact ⟨k, rfl, Or.inr ⟨k, rfl, h4, by simpa using hk⟩, hb⟩
theorem kk {WI : Nat → Prop} {WE : Int} {a b : Nat} (h : ∀ a b, WI a → WI b → a = b) (ha : (WE = 0 → WI a) ∧ (WE ≠ 0 → a = 0)) (hb : (WE = 0 → WI b) ∧ (WE ≠ 0 → b = 0)) : a = b := by
  by_cases e : WE = 0
  · exact h a b (ha.1 e) (hb.1 e)
  · rw [ha.2 e, hb.2 e]
set_option maxRecDepth 100000 in
set_option maxHeartbeats 16000000 in
theorem sptells_of {G : World → Prop} (hall : ∀ w w', G w → Below w.heap.size w w' → G w') (hT : SupTurns G) (hL : SupLeast G) (hW : SupWait G) (hE : ∀ (e : Int) (W : World), G W → Calls Tryd.prog 10 #[wErr e, .int .i64 e] W fun r w' => r = .returned (.bool true) ∧ Below W.heap.size W w')
    (n : Int) (l : List S3) (v : Value) (r f m t : Int) (w : World) (hG : G w) (hl : Sps w v l) :
    Calls Tryd.prog 5 #[.int .i64 n, v, .int .i64 r, .int .i64 f, .int .i64 m, .int .i64 t] w fun e w' => e = .returned (.bool true) ∧ Below w.heap.size w w' := by
  have q1 := refframe_any n l v w hl
  have HE : Hid (∀ e W, Below w.heap.size w W → Calls Tryd.prog 10 #[wErr e, .int .i64 e] W fun r w' => r = .returned (.bool true) ∧ Below W.heap.size W w') := fun e W hb => hE e W (hall _ _ hG hb)
  have HT : Hid (∀ W, Below w.heap.size w W → Calls Tryd.prog 18 #[.int .i64 n, v, .int .i64 r, .int .i64 f, .int .i64 m] W fun e w' => e = .returned (.tuple #[.int .i64 (turnsV n l r f m), wErr (turnsE n l r f m)]) ∧ Below W.heap.size W w') := fun W hb => hT n l v r f m W (hall _ _ hG hb) (hl.all hb)
  have HL : Hid (∀ W, Below w.heap.size w W → Calls Tryd.prog 20 #[.int .i64 n, v, .int .i64 r, .int .i64 m] W fun e w' => e = .returned (.tuple #[.int .i64 (leastV n l r m), wErr (leastE n l r m)]) ∧ Below W.heap.size W w') := fun W hb => hL n l v r m W (hall _ _ hG hb) (hl.all hb)
  have HW : Hid (∀ W, Below w.heap.size w W → Calls Tryd.prog 22 #[.int .i64 n, v, .int .i64 r, .int .i64 t] W fun e w' => ∃ k : Nat, e = .returned (.tuple #[.int .i64 (k : Int), wErr (waitE n l r t)]) ∧ Hid ((waitE n l r t = 0 → WaitIs (hasT n l r) n.toNat t.toNat k) ∧ (waitE n l r t ≠ 0 → k = 0)) ∧ Below W.heap.size W w') := fun W hb => by
    refine (hW n l v r t W (hall _ _ hG hb) (hl.all hb)).mono ?_
    rintro e w' ⟨k, rfl, h1, h2, h3⟩
    exact ⟨k, rfl, ⟨h1, h2⟩, h3⟩
  have HRT : Hid (turnsE n l r f m = 0 → ∀ W, Below w.heap.size w W → Calls Tryd.prog 17 #[.int .i64 n, v, .int .i64 r, .int .i64 f, .int .i64 m] W fun e w' => e = .returned (.int .i64 (turnsV n l r f m)) ∧ Below W.heap.size W w') := fun h W hb => rturns_v (hl.all hb) h
  have HRL : Hid (leastE n l r m = 0 → ∀ W, Below w.heap.size w W → Calls Tryd.prog 19 #[.int .i64 n, v, .int .i64 r, .int .i64 m] W fun e w' => e = .returned (.int .i64 (leastV n l r m)) ∧ Below W.heap.size W w') := fun h W hb => rleast_v (hl.all hb) h
  have HRW : Hid (wait1 n l r t = 0 → ∀ W, Below w.heap.size w W → Calls Tryd.prog 21 #[.int .i64 n, v, .int .i64 r, .int .i64 t] W fun e w' => ∃ z : Int, e = .returned (.int .i64 z) ∧ Hid ((z = -1 ∧ waitE n l r t = 5) ∨ ∃ k : Nat, z = k ∧ waitE n l r t = 0 ∧ WaitIs (hasT n l r) n.toNat t.toNat k) ∧ Below W.heap.size W w') := fun h W hb => rwait_v (hl.all hb) h
  have HS : Hid (supE n l r = if ((fchk n l).2 == 0 && rB r) = true then 1 else (fchk n l).2) := supE_b n l r
  have HTE : Hid (turnsE n l r f m = if (supE n l r == 0 && fB f m) = true then 1 else supE n l r) := turnsE_b n l r f m
  have HLE : Hid (leastE n l r m = if (supE n l r == 0 && mB m) = true then 1 else supE n l r) := leastE_b n l r m
  have HW1 : Hid (wait1 n l r t = if (supE n l r == 0 && tB t) = true then 1 else supE n l r) := rfl
  have HTV : Hid (turnsE n l r f m ≠ 0 → turnsV n l r f m = 0) := fun h => by unfold turnsV; rw [if_neg h]
  have HLV : Hid (leastE n l r m ≠ 0 → leastV n l r m = 0) := fun h => by unfold leastV; rw [if_neg h]
  have HWN : Hid (wait1 n l r t ≠ 0 → waitE n l r t = wait1 n l r t) := wait1_not
  have HWO : Hid (∀ a b, WaitIs (hasT n l r) n.toNat t.toNat a → WaitIs (hasT n l r) n.toNat t.toNat b → a = b) := fun a b ha hb => wait_one ha hb
  obtain ⟨va, vc, rfl⟩ := hl.form
  generalize (fchk n l).1 = pe at q1
  generalize (fchk n l).2 = fe at q1 HS
  generalize supE n l r = S at HS HTE HLE HW1
  generalize turnsE n l r f m = TE at HT HRT HTE HTV
  generalize turnsV n l r f m = TV at HT HRT HTV
  generalize leastE n l r m = LE at HL HRL HLE HLV
  generalize leastV n l r m = LV at HL HRL HLV
  generalize wait1 n l r t = E1 at HRW HW1 HWN
  generalize waitE n l r t = WE at HW HRW HWN
  generalize WaitIs (hasT n l r) n.toNat t.toNat = WI at HW HRW HWO
  clear hT hL hW hE hl hall hG
  go_enter Tryd.func5, Tryd.ntmps5
  go_upto_region 2 with (go_at_call 16; refine q1.mono ?_; rintro e w1 ⟨rfl, B1⟩; clear q1)
  go_cut [37] from 28 to 36 (fun sb wx => sb = .bool (fe == 0 && rB r) ∧ wx = w1)
  case first =>
    by_cases h0 : fe = 0
    · subst h0
      by_cases h1 : r < 0
      · have d0 : decide (r < 0) = true := decide_eq_true h1
        have HX : Hid (((0 : Int) == 0 && rB r) = true) := by
          show (_ && _) = true
          unfold rB
          simp [d0]
        clear h1
        go_wp2_with fail
        go_meet
        case rel => exact ⟨by rw [HX.out], rfl⟩
      · by_cases h2 : 4 < r
        · have d0 : decide (r < 0) = false := decide_eq_false (by omega)
          have d1 : decide (4 < r) = true := decide_eq_true h2
          have HX : Hid (((0 : Int) == 0 && rB r) = true) := by
            show (_ && _) = true
            unfold rB
            simp [d0, d1]
          clear h2
          go_wp2_with fail
          go_meet
          case rel => exact ⟨by rw [HX.out], rfl⟩
        · have d0 : decide (r < 0) = false := decide_eq_false (by omega)
          have d1 : decide (4 < r) = false := decide_eq_false (by omega)
          have HX : Hid (((0 : Int) == 0 && rB r) = false) := by
            show (_ && _) = false
            unfold rB
            simp only [d0, d1]
            rfl
          go_wp2_with fail
          go_meet
          case rel => exact ⟨by rw [HX.out], rfl⟩
    · have d0 : (fe == 0) = false := by simpa using h0
      have HX : Hid ((fe == 0 && rB r) = false) := by
        show (_ && _) = false
        rw [d0]
        rfl
      clear h0
      go_wp2_with fail
      go_meet
      case rel => exact ⟨by rw [HX.out], rfl⟩
  case rest =>
  obtain ⟨rfl, hwc⟩ := hcut
  rw [hwc]
  clear hwc wc
  go_step
  go_cut [14] from 37 to 37 (fun se wx => se = .int .i64 S ∧ wx = w1)
  case first =>
    cases hb : (fe == 0 && rB r) with
    | true =>
      have HY : Hid (S = 1) := by
        show S = 1
        rw [HS.out, hb]
        rfl
      clear hb
      go_wp2_with fail
      go_meet
      case rel => exact ⟨by rw [HY.out], rfl⟩
    | false =>
      have HY : Hid (S = fe) := by
        show S = fe
        rw [HS.out, hb]
        rfl
      clear hb
      go_wp2_with fail
      go_meet
      case rel => exact ⟨by rw [HY.out], rfl⟩
  case rest =>
  obtain ⟨rfl, hwc⟩ := hcut
  rw [hwc]
  clear hwc wc
  go_step
  go_upto_region 5 with fail
  go_cut [56] from 39 to 55 (fun sb wx => sb = .bool (S == 0 && fB f m) ∧ wx = w1)
  case first =>
    by_cases h0 : S = 0
    · subst h0
      by_cases h1 : f < 0
      · have d0 : decide (f < 0) = true := decide_eq_true h1
        have HX : Hid (((0 : Int) == 0 && fB f m) = true) := by
          show (_ && _) = true
          unfold fB
          simp [d0]
        clear h1
        go_wp2_with fail
        go_meet
        case rel => exact ⟨by rw [HX.out], rfl⟩
      · by_cases h2 : 2000 < f
        · have d0 : decide (f < 0) = false := decide_eq_false (by omega)
          have d1 : decide (2000 < f) = true := decide_eq_true h2
          have HX : Hid (((0 : Int) == 0 && fB f m) = true) := by
            show (_ && _) = true
            unfold fB
            simp [d0, d1]
          clear h2
          go_wp2_with fail
          go_meet
          case rel => exact ⟨by rw [HX.out], rfl⟩
        · by_cases h3 : m < 0
          · have d0 : decide (f < 0) = false := decide_eq_false (by omega)
            have d1 : decide (2000 < f) = false := decide_eq_false (by omega)
            have d2 : decide (m < 0) = true := decide_eq_true h3
            have HX : Hid (((0 : Int) == 0 && fB f m) = true) := by
              show (_ && _) = true
              unfold fB
              simp [d0, d1, d2]
            clear h3
            go_wp2_with fail
            go_meet
            case rel => exact ⟨by rw [HX.out], rfl⟩
          · by_cases h4 : 2000 < m
            · have d0 : decide (f < 0) = false := decide_eq_false (by omega)
              have d1 : decide (2000 < f) = false := decide_eq_false (by omega)
              have d2 : decide (m < 0) = false := decide_eq_false (by omega)
              have d3 : decide (2000 < m) = true := decide_eq_true h4
              have HX : Hid (((0 : Int) == 0 && fB f m) = true) := by
                show (_ && _) = true
                unfold fB
                simp [d0, d1, d2, d3]
              clear h4
              go_wp2_with fail
              go_meet
              case rel => exact ⟨by rw [HX.out], rfl⟩
            · have d0 : decide (f < 0) = false := decide_eq_false (by omega)
              have d1 : decide (2000 < f) = false := decide_eq_false (by omega)
              have d2 : decide (m < 0) = false := decide_eq_false (by omega)
              have d3 : decide (2000 < m) = false := decide_eq_false (by omega)
              have HX : Hid (((0 : Int) == 0 && fB f m) = false) := by
                show (_ && _) = false
                unfold fB
                simp only [d0, d1, d2, d3]
                rfl
              go_wp2_with fail
              go_meet
              case rel => exact ⟨by rw [HX.out], rfl⟩
    · have d0 : (S == 0) = false := by simpa using h0
      have HX : Hid ((S == 0 && fB f m) = false) := by
        show (_ && _) = false
        rw [d0]
        rfl
      clear h0
      go_wp2_with fail
      go_meet
      case rel => exact ⟨by rw [HX.out], rfl⟩
  case rest =>
  obtain ⟨rfl, hwc⟩ := hcut
  rw [hwc]
  clear hwc wc
  go_step
  go_cut [15] from 56 to 56 (fun se wx => se = .int .i64 TE ∧ wx = w1)
  case first =>
    cases hb : (S == 0 && fB f m) with
    | true =>
      have HY : Hid (TE = 1) := by
        show TE = 1
        rw [HTE.out, hb]
        rfl
      clear hb
      go_wp2_with fail
      go_meet
      case rel => exact ⟨by rw [HY.out], rfl⟩
    | false =>
      have HY : Hid (TE = S) := by
        show TE = S
        rw [HTE.out, hb]
        rfl
      clear hb
      go_wp2_with fail
      go_meet
      case rel => exact ⟨by rw [HY.out], rfl⟩
  case rest =>
  obtain ⟨rfl, hwc⟩ := hcut
  rw [hwc]
  clear hwc wc
  go_step
  go_upto_region 8 with fail
  go_cut [58] from 57 to 57 (fun sb wx => sb = .bool (decide (TE = 0)) ∧ wx = w1)
  case first =>
    by_cases h0 : TE = 0
    · subst h0
      go_wp2_with fail
      go_meet
      case rel => exact ⟨by simp, rfl⟩
    · have d0 : (TE == 0) = false := by simpa using h0
      have HX : Hid (decide (TE = 0) = false) := decide_eq_false h0
      clear h0
      go_wp2_with fail
      go_meet
      case rel => exact ⟨by rw [HX.out], rfl⟩
  case rest =>
  obtain ⟨rfl, hwc⟩ := hcut
  rw [hwc]
  clear hwc wc
  go_step
  go_cut [16] from 58 to 64 (fun sv wx => sv = .int .i64 TV ∧ Below w.heap.size w wx)
  case first =>
    by_cases h0 : TE = 0
    · have q := HRT.out h0 w1 B1
      rw [show decide (TE = 0) = true from decide_eq_true h0]
      clear h0
      go_wp2_with (go_at_call 17; refine q.mono ?_; rintro e wq ⟨rfl, bq⟩; clear q)
      go_meet
      case rel => exact ⟨rfl, B1.trans (bq.mono B1.size)⟩
    · have HY : Hid (TV = 0) := HTV.out h0
      rw [show decide (TE = 0) = false from decide_eq_false h0]
      clear h0
      go_wp2_with fail
      go_meet
      case rel => exact ⟨by rw [HY.out], B1⟩
  case rest =>
  obtain ⟨rfl, B2⟩ := hcut
  generalize wc = w2 at *
  clear B1
  go_step
  have q2 := HT.out w2 B2
  go_upto_region 13 with (first
    | (go_at_call 18; refine q2.mono ?_; rintro e w3 ⟨rfl, b3⟩; clear q2; have B3 := B2.trans (b3.mono B2.size); have q3 := HE.out TE w3 B3)
    | (go_at_call 10; refine q3.mono ?_; rintro e w4 ⟨rfl, b4⟩; clear q3; have B4 := B3.trans (b4.mono B3.size)))
  go_cut [92] from 83 to 91 (fun sb wx => sb = .bool (S == 0 && mB m) ∧ wx = w4)
  case first =>
    by_cases h0 : S = 0
    · subst h0
      by_cases h1 : m < 0
      · have d0 : decide (m < 0) = true := decide_eq_true h1
        have HX : Hid (((0 : Int) == 0 && mB m) = true) := by
          show (_ && _) = true
          unfold mB
          simp [d0]
        clear h1
        go_wp2_with fail
        go_meet
        case rel => exact ⟨by rw [HX.out], rfl⟩
      · by_cases h2 : 2000 < m
        · have d0 : decide (m < 0) = false := decide_eq_false (by omega)
          have d1 : decide (2000 < m) = true := decide_eq_true h2
          have HX : Hid (((0 : Int) == 0 && mB m) = true) := by
            show (_ && _) = true
            unfold mB
            simp [d0, d1]
          clear h2
          go_wp2_with fail
          go_meet
          case rel => exact ⟨by rw [HX.out], rfl⟩
        · have d0 : decide (m < 0) = false := decide_eq_false (by omega)
          have d1 : decide (2000 < m) = false := decide_eq_false (by omega)
          have HX : Hid (((0 : Int) == 0 && mB m) = false) := by
            show (_ && _) = false
            unfold mB
            simp only [d0, d1]
            rfl
          go_wp2_with fail
          go_meet
          case rel => exact ⟨by rw [HX.out], rfl⟩
    · have d0 : (S == 0) = false := by simpa using h0
      have HX : Hid ((S == 0 && mB m) = false) := by
        show (_ && _) = false
        rw [d0]
        rfl
      clear h0
      go_wp2_with fail
      go_meet
      case rel => exact ⟨by rw [HX.out], rfl⟩
  case rest =>
  obtain ⟨rfl, hwc⟩ := hcut
  rw [hwc]
  clear hwc wc
  go_step
  go_cut [15] from 92 to 92 (fun se wx => se = .int .i64 LE ∧ wx = w4)
  case first =>
    cases hb : (S == 0 && mB m) with
    | true =>
      have HY : Hid (LE = 1) := by
        show LE = 1
        rw [HLE.out, hb]
        rfl
      clear hb
      go_wp2_with fail
      go_meet
      case rel => exact ⟨by rw [HY.out], rfl⟩
    | false =>
      have HY : Hid (LE = S) := by
        show LE = S
        rw [HLE.out, hb]
        rfl
      clear hb
      go_wp2_with fail
      go_meet
      case rel => exact ⟨by rw [HY.out], rfl⟩
  case rest =>
  obtain ⟨rfl, hwc⟩ := hcut
  rw [hwc]
  clear hwc wc
  go_step
  go_upto_region 16 with fail
  go_cut [94] from 93 to 93 (fun sb wx => sb = .bool (decide (LE = 0)) ∧ wx = w4)
  case first =>
    by_cases h0 : LE = 0
    · subst h0
      go_wp2_with fail
      go_meet
      case rel => exact ⟨by simp, rfl⟩
    · have d0 : (LE == 0) = false := by simpa using h0
      have HX : Hid (decide (LE = 0) = false) := decide_eq_false h0
      clear h0
      go_wp2_with fail
      go_meet
      case rel => exact ⟨by rw [HX.out], rfl⟩
  case rest =>
  obtain ⟨rfl, hwc⟩ := hcut
  rw [hwc]
  clear hwc wc
  go_step
  go_cut [16] from 94 to 99 (fun sv wx => sv = .int .i64 LV ∧ Below w.heap.size w wx)
  case first =>
    by_cases h0 : LE = 0
    · have q := HRL.out h0 w4 B4
      rw [show decide (LE = 0) = true from decide_eq_true h0]
      clear h0
      go_wp2_with (go_at_call 19; refine q.mono ?_; rintro e wq ⟨rfl, bq⟩; clear q)
      go_meet
      case rel => exact ⟨rfl, B4.trans (bq.mono B4.size)⟩
    · have HY : Hid (LV = 0) := HLV.out h0
      rw [show decide (LE = 0) = false from decide_eq_false h0]
      clear h0
      go_wp2_with fail
      go_meet
      case rel => exact ⟨by rw [HY.out], B4⟩
  case rest =>
  obtain ⟨rfl, B5⟩ := hcut
  generalize wc = w5 at *
  clear B4
  go_step
  have q4 := HL.out w5 B5
  go_upto_region 20 with (first
    | (go_at_call 20; refine q4.mono ?_; rintro e w6 ⟨rfl, b6⟩; clear q4; have B6 := B5.trans (b6.mono B5.size); have q5 := HE.out LE w6 B6)
    | (go_at_call 10; refine q5.mono ?_; rintro e w7 ⟨rfl, b7⟩; clear q5; have B7 := B6.trans (b7.mono B6.size)))
  go_cut [125] from 116 to 124 (fun sb wx => sb = .bool (S == 0 && tB t) ∧ wx = w7)
  case first =>
    by_cases h0 : S = 0
    · subst h0
      by_cases h1 : t < 0
      · have d0 : decide (t < 0) = true := decide_eq_true h1
        have HX : Hid (((0 : Int) == 0 && tB t) = true) := by
          show (_ && _) = true
          unfold tB
          simp [d0]
        clear h1
        go_wp2_with fail
        go_meet
        case rel => exact ⟨by rw [HX.out], rfl⟩
      · by_cases h2 : 100 < t
        · have d0 : decide (t < 0) = false := decide_eq_false (by omega)
          have d1 : decide (100 < t) = true := decide_eq_true h2
          have HX : Hid (((0 : Int) == 0 && tB t) = true) := by
            show (_ && _) = true
            unfold tB
            simp [d0, d1]
          clear h2
          go_wp2_with fail
          go_meet
          case rel => exact ⟨by rw [HX.out], rfl⟩
        · have d0 : decide (t < 0) = false := decide_eq_false (by omega)
          have d1 : decide (100 < t) = false := decide_eq_false (by omega)
          have HX : Hid (((0 : Int) == 0 && tB t) = false) := by
            show (_ && _) = false
            unfold tB
            simp only [d0, d1]
            rfl
          go_wp2_with fail
          go_meet
          case rel => exact ⟨by rw [HX.out], rfl⟩
    · have d0 : (S == 0) = false := by simpa using h0
      have HX : Hid ((S == 0 && tB t) = false) := by
        show (_ && _) = false
        rw [d0]
        rfl
      clear h0
      go_wp2_with fail
      go_meet
      case rel => exact ⟨by rw [HX.out], rfl⟩
  case rest =>
  obtain ⟨rfl, hwc⟩ := hcut
  rw [hwc]
  clear hwc wc
  go_step
  go_cut [14] from 125 to 125 (fun se wx => se = .int .i64 E1 ∧ wx = w7)
  case first =>
    cases hb : (S == 0 && tB t) with
    | true =>
      have HY : Hid (E1 = 1) := by
        show E1 = 1
        rw [HW1.out, hb]
        rfl
      clear hb
      go_wp2_with fail
      go_meet
      case rel => exact ⟨by rw [HY.out], rfl⟩
    | false =>
      have HY : Hid (E1 = S) := by
        show E1 = S
        rw [HW1.out, hb]
        rfl
      clear hb
      go_wp2_with fail
      go_meet
      case rel => exact ⟨by rw [HY.out], rfl⟩
  case rest =>
  obtain ⟨rfl, hwc⟩ := hcut
  rw [hwc]
  clear hwc wc
  go_step
  go_upto_region 23 with fail
  go_cut [127] from 126 to 126 (fun sb wx => sb = .bool (decide (E1 = 0)) ∧ wx = w7)
  case first =>
    by_cases h0 : E1 = 0
    · subst h0
      go_wp2_with fail
      go_meet
      case rel => exact ⟨by simp, rfl⟩
    · have d0 : (E1 == 0) = false := by simpa using h0
      have HX : Hid (decide (E1 = 0) = false) := decide_eq_false h0
      clear h0
      go_wp2_with fail
      go_meet
      case rel => exact ⟨by rw [HX.out], rfl⟩
  case rest =>
  obtain ⟨rfl, hwc⟩ := hcut
  rw [hwc]
  clear hwc wc
  go_step
  go_cut [14, 16] from 127 to 134 (fun s14 s16 wx => s14 = .int .i64 WE ∧ ∃ k : Nat, s16 = .int .i64 (k : Int) ∧ Hid ((WE = 0 → WI k) ∧ (WE ≠ 0 → k = 0)) ∧ Below w.heap.size w wx)
  case first =>
    by_cases h0 : E1 = 0
    · have q := HRW.out h0 w7 B7
      have HZ0 : Hid (E1 = 0) := h0
      rw [show decide (E1 = 0) = true from decide_eq_true h0]
      clear h0
      go_upto_region 25 with (go_at_call 21; refine q.mono ?_; rintro e wq ⟨z, rfl, hz, bq⟩; clear q)
      have BQ := B7.trans (bq.mono B7.size)
      rcases hz.out with ⟨rfl, h5⟩ | ⟨k, rfl, h5, hk⟩
      · have H5 : Hid (WE = 5) := h5
        clear h5 hz
        go_wp2_with fail
        go_meet
        case rel => exact ⟨by rw [H5.out], 0, rfl, ⟨fun e => (by rw [H5.out] at e; cases e), fun _ => rfl⟩, BQ⟩
      · have H5 : Hid (WE = 0) := h5
        have HK : Hid (WI k) := hk
        have d0 : decide ((k : Int) < 0) = false := decide_eq_false (by omega)
        clear h5 hz hk
        go_wp2_with fail
        go_meet
        case rel => exact ⟨by rw [H5.out, HZ0.out], k, rfl, ⟨fun _ => HK.out, fun e => absurd H5.out e⟩, BQ⟩
    · have HY : Hid (WE = E1) := HWN.out h0
      have HZ : Hid (E1 ≠ 0) := h0
      rw [show decide (E1 = 0) = false from decide_eq_false h0]
      clear h0
      go_wp2_with fail
      go_meet
      case rel => exact ⟨by rw [HY.out], 0, rfl, ⟨fun e => absurd (HY.out.symm.trans e) HZ.out, fun _ => rfl⟩, B7⟩
  case rest =>
  obtain ⟨rfl, k, rfl, HK, B8⟩ := hcut
  generalize wc = w8 at *
  clear B7
  go_step
  have q6 := HW.out w8 B8
  go_wp2_with (first
    | (go_at_call 22; refine q6.mono ?_; rintro e w9 ⟨k', rfl, HK', b9⟩; clear q6; have B9 := B8.trans (b9.mono B8.size); have q7 := HE.out WE w9 B9; obtain rfl : k' = k := kk HWO.out HK'.out HK.out)
    | (go_at_call 10; refine q7.mono ?_; rintro e wA ⟨rfl, bA⟩; clear q7; have BA := B9.trans (bA.mono B9.size)))
  go_ret
  exact ⟨by simp, BA⟩
end Go.Proofs.YtheenonakbokpagDoor

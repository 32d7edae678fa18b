/-
  frameref2.Turns, Least, Wait: by the document.
-/
import Derived.Test.YtheenonakbokpagDoorSupM
import Derived.Test.YtheenonakbokpagDoorFBase
import Derived.Test.YtheenonakbokpagDoorEBase
import Derived.Test.YtheenonakbokpagDoorRefFrame
import Derived.Deep.CutRange
import Derived.Deep.RegionWith
import Derived.BigQuiet
namespace Go.Proofs.YtheenonakbokpagDoor
open Go.RowKit

theorem has_eq {n : Nat} {l : List S3} {r : Int} {t : Nat} {b : Bool} (h : hasT n l r t = b) : (hold l ((t : Int) % (n : Int)) == r) = b := by
  rw [← h]
  unfold hasT
  rw [Bool.eq_iff_iff]
  simp
set_option maxRecDepth 100000 in
set_option maxHeartbeats 4000000 in
theorem rturns_any (n f m : Nat) (l : List S3) (v : Value) (r : Int) (w : World) (hl : Sps w v l) (hn : 1 ≤ n) (hn2 : n ≤ 40) (hlen : l.length ≤ 12) (hf : f ≤ 100000) (hm : m ≤ 100000) :
    Calls Tryd.prog 17 #[.int .i64 n, v, .int .i64 r, .int .i64 f, .int .i64 m] w fun e w' => e = .returned (.int .i64 (cnR (hasT n l r) f m : Int)) ∧ Below w.heap.size w w' := by
  have HW : Hid (∀ (t : Nat) W, Below w.heap.size w W → Calls Tryd.prog 29 #[.int .i64 n, v, .int .i64 (t : Int)] W fun e w' => e = .returned (.int .i64 (hold l ((t : Int) % (n : Int)))) ∧ Below W.heap.size W w') := fun t W hb => refwho_any n l v t W (hl.all hb) (by omega) (by omega) (by omega) hlen
  obtain ⟨va, vc, rfl⟩ := hl.form
  clear hl
  go_enter Tryd.func17, Tryd.ntmps17
  go_wp2
  go_loopw [11, 12] (fun s11 s12 wr => ∃ k : Nat, k ≤ m ∧ s12 = .int .i64 ((f + k : Nat) : Int) ∧ s11 = .int .i64 (cnR (hasT n l r) f k : Int) ∧ Below w.heap.size w wr) (fun _ s12 _ => f + m - (intOf s12).toNat)
  case atStart => exact ⟨0, Nat.zero_le _, rfl, rfl, Below.refl _ _⟩
  case round =>
    obtain ⟨k, hk, rfl, rfl, hB⟩ := hrel
    have hc := cn_le (hasT n l r) f k
    by_cases hkm : k < m
    · have d1 : ((f + k : Nat) : Int) < (f : Int) + (m : Int) := by omega
      have q1 := HW.out (f + k) wr hB
      cases hh : hasT n l r (f + k) with
      | true =>
        have e1 := has_eq hh
        have HY : Hid (cnR (hasT n l r) f (k + 1) = cnR (hasT n l r) f k + 1) := by
          show cnR (hasT n l r) f k + _ = _
          rw [if_pos hh]
        clear hh
        generalize cnR (hasT n l r) f k = B at hc HY ⊢
        generalize hold l (((f + k : Nat) : Int) % (n : Int)) = ho at q1 e1
        go_wp2_with (go_at_call 29; refine q1.mono ?_; rintro e w1 ⟨rfl, b1⟩; clear q1)
        go_roundw
        case rel => exact ⟨k + 1, by omega, by go_num, by rw [HY.out]; go_num, hB.trans (b1.mono hB.size)⟩
        case measure => simp [intOf]; omega
      | false =>
        have e1 := has_eq hh
        have HY : Hid (cnR (hasT n l r) f (k + 1) = cnR (hasT n l r) f k) := by
          show cnR (hasT n l r) f k + _ = _
          rw [if_neg (by rw [hh]; simp), Nat.add_zero]
        clear hh
        generalize cnR (hasT n l r) f k = B at hc HY ⊢
        generalize hold l (((f + k : Nat) : Int) % (n : Int)) = ho at q1 e1
        go_wp2_with (go_at_call 29; refine q1.mono ?_; rintro e w1 ⟨rfl, b1⟩; clear q1)
        go_roundw
        case rel => exact ⟨k + 1, by omega, by go_num, by rw [HY.out], hB.trans (b1.mono hB.size)⟩
        case measure => simp [intOf]; omega
    · have hke : k = m := by omega
      subst hke
      have d1 : decide (((f + k : Nat) : Int) < (f : Int) + (k : Int)) = false := decide_eq_false (by omega)
      go_wp2
      go_ret
      exact ⟨rfl, hB⟩
/-- The least, as the document's loop finds it. -/
def mnT (p : Nat → Bool) (m x : Nat) : Nat → Nat
  | 0 => m
  | k + 1 => min (mnT p m x k) (cnR p k x)
theorem mnT_ls (p : Nat → Bool) {m x : Nat} (h : x ≤ m) : ∀ k, mnT p m x (k + 1) = lsT p x k
  | 0 => by
    show min m (cnR p 0 x) = cnR p 0 x
    have := cn_le p 0 x
    omega
  | k + 1 => by
    show min (mnT p m x (k + 1)) (cnR p (k + 1) x) = _
    rw [mnT_ls p h k]
    rfl
theorem mnT_le (p : Nat → Bool) (m x : Nat) : ∀ k, mnT p m x k ≤ m
  | 0 => Nat.le_refl _
  | k + 1 => Nat.le_trans (Nat.min_le_left _ _) (mnT_le p m x k)
set_option maxRecDepth 100000 in
set_option maxHeartbeats 4000000 in
theorem rleast_any (n m : Nat) (l : List S3) (v : Value) (r : Int) (w : World) (hl : Sps w v l) (hn : 1 ≤ n) (hn2 : n ≤ 40) (hlen : l.length ≤ 12) (hm : m ≤ 10000) :
    Calls Tryd.prog 19 #[.int .i64 n, v, .int .i64 r, .int .i64 m] w fun e w' => e = .returned (.int .i64 (leastT (hasT n l r) n m : Int)) ∧ Below w.heap.size w w' := by
  have hx : m % n < n := Nat.mod_lt _ (by omega)
  have hxm : m % n ≤ m := Nat.mod_le _ _
  have HT : Hid (∀ (f : Nat) W, f ≤ 40 → Below w.heap.size w W → Calls Tryd.prog 17 #[.int .i64 n, v, .int .i64 r, .int .i64 f, .int .i64 ((m : Int) % (n : Int))] W fun e w' => e = .returned (.int .i64 (cnR (hasT n l r) f (m % n) : Int)) ∧ Below W.heap.size W w') := fun f W hf hb => by
    have := rturns_any n f (m % n) l v r W (hl.all hb) hn hn2 hlen (by omega) (by omega)
    rwa [Int.natCast_emod] at this
  have HF : Hid (∀ W, Below w.heap.size w W → Calls Tryd.prog 17 #[.int .i64 n, v, .int .i64 r, .int .i64 0, .int .i64 n] W fun e w' => e = .returned (.int .i64 (cnR (hasT n l r) 0 n : Int)) ∧ Below W.heap.size W w') := fun W hb => rturns_any n 0 n l v r W (hl.all hb) hn hn2 hlen (by omega) (by omega)
  have HR : Hid (leastT (hasT n l r) n m = mnT (hasT n l r) m (m % n) n + m / n * cnR (hasT n l r) 0 n) := by
    show _ = _
    rw [least_frames (by omega) (fun x => hasT_per l r x) m]
    congr 1
    have := mnT_ls (hasT n l r) hxm (n - 1)
    rw [show n - 1 + 1 = n by omega] at this
    exact this.symm
  have hF := cn_le (hasT n l r) 0 n
  have hfl : m / n * cnR (hasT n l r) 0 n ≤ m := Nat.le_trans (Nat.mul_le_mul_left _ hF) (Nat.div_mul_le_self m n)
  obtain ⟨va, vc, rfl⟩ := hl.form
  have hn0 : (n : Int) ≠ 0 := by omega
  have hnb : ((n : Int) == 0) = false := by simpa using hn0
  rw [HR.out]
  clear hl HR
  go_enter Tryd.func19, Tryd.ntmps19
  go_wp2
  go_loopw [9, 10] (fun s9 s10 wr => ∃ k : Nat, k ≤ n ∧ s10 = .int .i64 k ∧ s9 = .int .i64 (mnT (hasT n l r) m (m % n) k : Int) ∧ Below w.heap.size w wr) (fun _ s10 _ => n - (intOf s10).toNat)
  case atStart => exact ⟨0, Nat.zero_le _, rfl, rfl, Below.refl _ _⟩
  case round =>
    obtain ⟨k, hk, rfl, rfl, hB⟩ := hrel
    by_cases hkn : k < n
    · have d1 : (k : Int) < (n : Int) := by omega
      have q1 := HT.out k wr (by omega) hB
      have HY : Hid (mnT (hasT n l r) m (m % n) (k + 1) = min (mnT (hasT n l r) m (m % n) k) (cnR (hasT n l r) k (m % n))) := rfl
      generalize mnT (hasT n l r) m (m % n) k = B at HY ⊢
      generalize cnR (hasT n l r) k (m % n) = c at q1 HY
      by_cases hcb : c < B
      · have HG : Hid (c < B) := hcb
        have d2 : (c : Int) < (B : Int) := by omega
        clear hcb
        go_wp2_with (go_at_call 17; refine q1.mono ?_; rintro e w1 ⟨rfl, b1⟩; clear q1)
        go_roundw
        case rel => exact ⟨k + 1, by omega, by go_num, by rw [HY.out, Nat.min_eq_right (Nat.le_of_lt HG.out)], hB.trans (b1.mono hB.size)⟩
        case measure => simp [intOf]; omega
      · have HG : Hid (B ≤ c) := Nat.le_of_not_lt hcb
        have d2 : decide ((c : Int) < (B : Int)) = false := decide_eq_false (by omega)
        have d3 : decide (c < B) = false := decide_eq_false hcb
        clear hcb
        go_wp2_with (go_at_call 17; refine q1.mono ?_; rintro e w1 ⟨rfl, b1⟩; clear q1)
        go_roundw
        case rel => exact ⟨k + 1, by omega, by go_num, by rw [HY.out, Nat.min_eq_left HG.out], hB.trans (b1.mono hB.size)⟩
        case measure => simp [intOf]; omega
    · have hke : k = n := by omega
      subst hke
      have d1 : decide ((k : Int) < (k : Int)) = false := decide_eq_false (by omega)
      have hmn := mnT_le (hasT k l r) m (m % k) k
      have q1 := HF.out wr.drew (hB.trans ((Below.refl _ _).drew.mono hB.size))
      have hP : 0 ≤ (m : Int) / (k : Int) * (cnR (hasT k l r) 0 k : Int) ∧ (m : Int) / (k : Int) * (cnR (hasT k l r) 0 k : Int) ≤ 10000 := by
        have e : (m : Int) / (k : Int) * (cnR (hasT k l r) 0 k : Int) = ((m / k * cnR (hasT k l r) 0 k : Nat) : Int) := by simp
        rw [e]
        omega
      have hQ : 0 ≤ (m : Int) / (k : Int) ∧ (m : Int) / (k : Int) ≤ 10000 := by
        have e : (m : Int) / (k : Int) = ((m / k : Nat) : Int) := by simp
        have h1 : m / k ≤ 10000 := Nat.le_trans (Nat.div_le_self m k) hm
        rw [e]
        exact ⟨Int.natCast_nonneg _, by exact_mod_cast h1⟩
      obtain ⟨hP1, hP2⟩ := hP
      obtain ⟨hQ1, hQ2⟩ := hQ
      obtain ⟨A1, hA1⟩ : ∃ x, mnT (hasT k l r) m (m % k) k = x := ⟨_, rfl⟩
      obtain ⟨A2, hA2⟩ : ∃ x, cnR (hasT k l r) 0 k = x := ⟨_, rfl⟩
      have HA1 : Hid (mnT (hasT k l r) m (m % k) k = A1) := hA1
      have HA2 : Hid (cnR (hasT k l r) 0 k = A2) := hA2
      rw [hA1] at hmn ⊢
      rw [hA2] at hfl hP1 hP2 q1 hF
      clear hA1 hA2
      go_upto_region 8 with fail
      go_region_with (go_at_call 17; refine q1.mono ?_; rintro e w1 ⟨rfl, b1⟩)
      all_goals (
        go_wp2
        go_ret
        refine ⟨?_, hB.trans (((Below.refl _ wr).drew.trans b1).mono hB.size)⟩
        exact wretI (a := IntKind.i64.wrap ((A1 : Int) + IntKind.i64.wrap ((m : Int) / (k : Int) * (A2 : Int)))) (b := ((mnT (hasT k l r) m (m % k) k + m / k * cnR (hasT k l r) 0 k : Nat) : Int)) (by rw [HA1.out, HA2.out, IntWalk.i64_in ((m : Int) / (k : Int) * (A2 : Int)) ⟨by omega, by omega⟩, IntWalk.i64_in ((A1 : Int) + (m : Int) / (k : Int) * (A2 : Int)) ⟨by omega, by omega⟩]; simp))
set_option maxRecDepth 100000 in
set_option maxHeartbeats 4000000 in
theorem rwait_zero (n : Nat) (v : Value) (r : Int) (w : World) : Calls Tryd.prog 21 #[.int .i64 n, v, .int .i64 r, .int .i64 0] w fun e w' => e = .returned (.int .i64 0) ∧ Below w.heap.size w w' := by
  go_enter Tryd.func21, Tryd.ntmps21
  go_wp2
  go_ret
  exact ⟨rfl, Below.refl _ _⟩
set_option maxRecDepth 100000 in
set_option maxHeartbeats 4000000 in
theorem rwait_none (n t : Nat) (l : List S3) (v : Value) (r : Int) (w : World) (hl : Sps w v l) (hn : 1 ≤ n) (hn2 : n ≤ 40) (hlen : l.length ≤ 12) (ht : t ≠ 0) (hc : cnR (hasT n l r) 0 n = 0) : Calls Tryd.prog 21 #[.int .i64 n, v, .int .i64 r, .int .i64 t] w fun e w' => e = .returned (.int .i64 (-1)) ∧ Below w.heap.size w w' := by
  have q1 := rturns_any n 0 n l v r w hl hn hn2 hlen (by omega) (by omega)
  rw [hc] at q1
  obtain ⟨va, vc, rfl⟩ := hl.form
  have d1 : ((t : Int) == 0) = false := by simpa using ht
  have d2 : (t == 0) = false := by simpa using ht
  clear hc hl
  go_enter Tryd.func21, Tryd.ntmps21
  go_wp2_with (go_at_call 17; refine q1.mono ?_; rintro e w1 ⟨rfl, b1⟩; clear q1)
  go_ret
  exact ⟨rfl, b1⟩
set_option maxRecDepth 100000 in
set_option maxHeartbeats 8000000 in
theorem rwait_ok (n t : Nat) (l : List S3) (v : Value) (r : Int) (w : World) (hl : Sps w v l) (hn : 1 ≤ n) (hn2 : n ≤ 40) (hlen : l.length ≤ 12) (ht : t ≠ 0) (ht2 : t ≤ 100) (hc : 0 < cnR (hasT n l r) 0 n) : Calls Tryd.prog 21 #[.int .i64 n, v, .int .i64 r, .int .i64 t] w fun e w' => ∃ m : Nat, e = .returned (.int .i64 (m : Int)) ∧ WaitIs (hasT n l r) n t m ∧ Below w.heap.size w w' := by
  have q1 := rturns_any n 0 n l v r w hl hn hn2 hlen (by omega) (by omega)
  have HW : Hid (∀ (t : Nat) W, Below w.heap.size w W → Calls Tryd.prog 29 #[.int .i64 n, v, .int .i64 (t : Int)] W fun e w' => e = .returned (.int .i64 (hold l ((t : Int) % (n : Int)))) ∧ Below W.heap.size W w') := fun t W hb => refwho_any n l v t W (hl.all hb) (by omega) (by omega) (by omega) hlen
  have HP : Hid (∀ x, hasT n l r (x + n) = hasT n l r x) := fun x => hasT_per l r x
  have HC : Hid (0 < cnR (hasT n l r) 0 n) := hc
  have htn : t * n ≤ 4000 := Nat.le_trans (Nat.mul_le_mul ht2 hn2) (by decide)
  obtain ⟨va, vc, rfl⟩ := hl.form
  have d1 : ((t : Int) == 0) = false := by simpa using ht
  have d2 : (t == 0) = false := by simpa using ht
  obtain ⟨C, hC⟩ : ∃ x, cnR (hasT n l r) 0 n = x := ⟨_, rfl⟩
  rw [hC] at q1 hc
  have d3 : ((C : Int) == 0) = false := by simp; omega
  have d4 : (C == 0) = false := by simp; omega
  obtain ⟨T, hT⟩ : ∃ x, t * n = x := ⟨_, rfl⟩
  have HT : Hid (t * n = T) := hT
  rw [hT] at htn
  clear hC hl hT
  go_enter Tryd.func21, Tryd.ntmps21
  go_upto_region 7 with (go_at_call 17; refine q1.mono ?_; rintro e w1 ⟨rfl, b1⟩; clear q1)
  go_loopw [9, 10] (fun s9 s10 wr => ∃ f M : Nat, f ≤ n ∧ M ≤ T ∧ s10 = .int .i64 f ∧ s9 = .int .i64 M ∧ Hid ((∀ g, g < f → ∃ s, OneW (hasT n l r) g t s ∧ s ≤ M) ∧ ((f = 0 ∧ M = 0) ∨ ∃ g, g < f ∧ OneW (hasT n l r) g t M)) ∧ Below w.heap.size w wr) (fun _ s10 _ => n - (intOf s10).toNat)
  case atStart => exact ⟨0, 0, Nat.zero_le _, Nat.zero_le _, rfl, rfl, ⟨fun g hg => absurd hg (Nat.not_lt_zero _), Or.inl ⟨rfl, rfl⟩⟩, b1⟩
  case round =>
    rename World => wo
    clear b1
    obtain ⟨f, M, hf, hM, rfl, rfl, HI, hbo⟩ := hrel
    by_cases hfn : f < n
    · have d5 : (f : Int) < (n : Int) := by omega
      go_upto_region 11 with fail
      go_loopw [11, 12] (fun s11 s12 wr => ∃ s c : Nat, s ≤ T ∧ c ≤ t ∧ s11 = .int .i64 ((f + s : Nat) : Int) ∧ s12 = .int .i64 (c : Int) ∧ Hid (c = cnR (hasT n l r) f s ∧ ∀ x, x < s → cnR (hasT n l r) f x < t) ∧ Below w.heap.size w wr) (fun s11 _ _ => f + T - (intOf s11).toNat)
      case atStart => exact ⟨0, 0, Nat.zero_le _, Nat.zero_le _, rfl, rfl, ⟨rfl, fun x hx => absurd hx (Nat.not_lt_zero _)⟩, hbo⟩
      case round =>
        clear hbo
        obtain ⟨s, c, hs, hct, rfl, rfl, HJ, hB⟩ := hrel
        by_cases hlt : c < t
        · have d6 : (c : Int) < (t : Int) := by omega
          have hsT : s < T := by
            by_cases h : s < T
            · exact h
            · exfalso
              have h1 := cn_frames HP.out f t 0
              rw [Nat.add_zero, HT.out] at h1
              have h2 : t ≤ t * cnR (hasT n l r) 0 n := Nat.le_mul_of_pos_right t HC.out
              have h3 := cn_mono (hasT n l r) f (show T ≤ s by omega)
              have h4 := HJ.out.1
              have h5 : cnR (hasT n l r) f 0 = 0 := rfl
              omega
          have HL : Hid (c < t) := hlt
          have q2 := HW.out (f + s) wr hB
          cases hh : hasT n l r (f + s) with
          | true =>
            have e1 := has_eq hh
            have HY : Hid (c + 1 = cnR (hasT n l r) f (s + 1)) := by
              show c + 1 = cnR (hasT n l r) f s + _
              rw [if_pos hh, HJ.out.1]
            clear hh
            generalize hold l (((f + s : Nat) : Int) % (n : Int)) = ho at q2 e1
            go_wp2_with (go_at_call 29; refine q2.mono ?_; rintro e w2 ⟨rfl, b2⟩; clear q2)
            go_roundw
            case rel => exact ⟨s + 1, c + 1, by omega, by omega, by go_num, by go_num, ⟨HY.out, fun x hx => by
              by_cases e : x = s
              · subst e; rw [← HJ.out.1]; exact HL.out
              · exact HJ.out.2 x (by omega)⟩, hB.trans (b2.mono hB.size)⟩
            case measure => simp [intOf]; omega
          | false =>
            have e1 := has_eq hh
            have HY : Hid (c = cnR (hasT n l r) f (s + 1)) := by
              show c = cnR (hasT n l r) f s + _
              rw [if_neg (by rw [hh]; simp), HJ.out.1]
              rfl
            clear hh
            generalize hold l (((f + s : Nat) : Int) % (n : Int)) = ho at q2 e1
            go_wp2_with (go_at_call 29; refine q2.mono ?_; rintro e w2 ⟨rfl, b2⟩; clear q2)
            go_roundw
            case rel => exact ⟨s + 1, c, by omega, by omega, by go_num, rfl, ⟨HY.out, fun x hx => by
              by_cases e : x = s
              · subst e; rw [← HJ.out.1]; exact HL.out
              · exact HJ.out.2 x (by omega)⟩, hB.trans (b2.mono hB.size)⟩
            case measure => simp [intOf]; omega
        · have d6 : decide ((c : Int) < (t : Int)) = false := decide_eq_false (by omega)
          have d7 : decide (c < t) = false := decide_eq_false hlt
          have HO : Hid (OneW (hasT n l r) f t s) := ⟨by rw [← HJ.out.1]; omega, HJ.out.2⟩
          clear HJ
          by_cases hgt : M < s
          · have HG : Hid (M < s) := hgt
            have d8 : (M : Int) < ((f + s : Nat) : Int) - (f : Int) := by omega
            clear hgt
            go_wp2
            go_roundw
            case rel => exact ⟨f + 1, s, by omega, hs, by go_num, by go_num, ⟨fun g hg => by
              by_cases e : g = f
              · subst e; exact ⟨s, HO.out, Nat.le_refl _⟩
              · obtain ⟨s', h1, h2⟩ := HI.out.1 g (by omega)
                exact ⟨s', h1, by have := HG.out; omega⟩, Or.inr ⟨f, by omega, HO.out⟩⟩, hB⟩
            case measure => simp [intOf]; omega
          · have HG : Hid (¬ M < s) := hgt
            have d8 : decide ((M : Int) < ((f + s : Nat) : Int) - (f : Int)) = false := decide_eq_false (by omega)
            have d9 : decide ((M : Int) < (f : Int) + (s : Int) - (f : Int)) = false := decide_eq_false (by omega)
            clear hgt
            go_wp2
            go_roundw
            case rel => exact ⟨f + 1, M, by omega, hM, by go_num, rfl, ⟨fun g hg => by
              by_cases e : g = f
              · subst e; exact ⟨s, HO.out, by have := HG.out; omega⟩
              · exact HI.out.1 g (by omega), by
              rcases HI.out.2 with ⟨e1, e2⟩ | ⟨g, h1, h2⟩
              · refine Or.inr ⟨f, by omega, ?_⟩
                have : s = M := by have := HG.out; omega
                rw [← this]; exact HO.out
              · exact Or.inr ⟨g, by omega, h2⟩⟩, hB⟩
            case measure => simp [intOf]; omega
    · have hfe : f = n := by omega
      subst hfe
      have d5 : decide ((f : Int) < (f : Int)) = false := decide_eq_false (by omega)
      have HR : Hid (WaitIs (hasT f l r) f t M) := by
        refine wait_most (by omega) HI.out.1 ?_ HP.out
        rcases HI.out.2 with ⟨e1, _⟩ | h
        · omega
        · exact h
      clear HI
      go_wp2
      go_ret
      exact ⟨M, rfl, HR.out, hbo⟩
end Go.Proofs.YtheenonakbokpagDoor

/-
  The law SupplyWaits, of what package supply promises.
-/
import Derived.Test.YtheenonakbokpagSupCT
import Derived.Test.YtheenonakbokpagSupCL
import Derived.Test.YtheenonakbokpagSupCW
import Derived.Test.YtheenonakbokpagSupX
import Derived.Deep.CutRange
import Derived.RangeFuncNested
namespace Go.Proofs.Ytheenonakbokpag
open Go.RowKit

/-- The law's own frame. -/
theorem toyS_ok : waitE 4 [(0, 1, 3)] 3 2 = 0 := by decide +kernel
theorem toyS_wait : 2 ≤ leastT (hasT 4 [(0, 1, 3)] 3) 4 8 ∧ ∀ s, s < 8 → leastT (hasT 4 [(0, 1, 3)] 3) 4 s < 2 := by decide +kernel
theorem leastV_range (n : Int) (l : List S3) (r m : Int) : 0 ≤ leastV n l r m ∧ leastV n l r m ≤ 2000 := by
  unfold leastV
  split
  · rename_i h
    obtain ⟨h1, h2, h3⟩ := leastE_zero h
    have hf := fchk_zero (supE_zero h1).1
    obtain ⟨k, rfl⟩ : ∃ k : Nat, n = k := ⟨n.toNat, by omega⟩
    have := least_bound (p := hasT k l r) (n := k) (by omega) (fun x => hasT_per l r x) m.toNat
    rw [Int.toNat_natCast]
    omega
  · omega
theorem least_two {n : Int} {l : List S3} {r m : Int} (h1 : leastE n l r m = 0) (h2 : leastE n l r (m + 1) = 0) : leastV n l r m ≤ leastV n l r (m + 1) ∧ leastV n l r (m + 1) ≤ leastV n l r m + 1 := by
  obtain ⟨a1, a2, a3⟩ := leastE_zero h1
  have hf := fchk_zero (supE_zero a1).1
  obtain ⟨k, rfl⟩ : ∃ k : Nat, n = k := ⟨n.toNat, by omega⟩
  obtain ⟨m, rfl⟩ : ∃ j : Nat, m = j := ⟨m.toNat, by omega⟩
  unfold leastV
  rw [if_pos h1, if_pos h2, Int.toNat_natCast, Int.toNat_natCast, show ((m : Int) + 1).toNat = m + 1 by omega]
  have := least_step (p := hasT k l r) (n := k) (by omega) (fun x => hasT_per l r x) m
  omega
theorem least_turns {n : Int} {l : List S3} {r f m : Int} (h1 : leastE n l r m = 0) (h2 : turnsE n l r f m = 0) : leastV n l r m ≤ turnsV n l r f m := by
  obtain ⟨a1, a2, a3⟩ := leastE_zero h1
  have hf := fchk_zero (supE_zero a1).1
  obtain ⟨k, rfl⟩ : ∃ k : Nat, n = k := ⟨n.toNat, by omega⟩
  unfold leastV turnsV
  rw [if_pos h1, if_pos h2, Int.toNat_natCast]
  have := least_le (p := hasT k l r) (n := k) (by omega) (fun x => hasT_per l r x) f.toNat m.toNat
  omega
/-- What a wait tells of the least. -/
theorem wait_least {n : Int} {l : List S3} {r t : Int} {k : Nat} (h1 : waitE n l r t = 0) (h2 : WaitIs (hasT n l r) n.toNat t.toNat k) (hk : k ≤ 2000) : leastE n l r k = 0 ∧ t ≤ leastV n l r k ∧ (0 < k → leastE n l r ((k : Int) - 1) = 0 ∧ leastV n l r ((k : Int) - 1) < t) := by
  obtain ⟨a1, a2, a3, _⟩ := waitE_zero h1
  have e1 : leastE n l r k = 0 := by unfold leastE; rw [if_pos a1, if_neg (by omega)]
  refine ⟨e1, ?_, fun hk0 => ?_⟩
  · unfold leastV
    rw [if_pos e1, Int.toNat_natCast]
    have := h2.1
    omega
  · have e2 : leastE n l r ((k : Int) - 1) = 0 := by unfold leastE; rw [if_pos a1, if_neg (by omega)]
    refine ⟨e2, ?_⟩
    unfold leastV
    rw [if_pos e2, show ((k : Int) - 1).toNat = k - 1 by omega]
    have := h2.2 (k - 1) (by omega)
    omega
set_option maxRecDepth 100000 in
set_option maxHeartbeats 16000000 in
theorem spwaits_of {G : World → Prop} (hall : ∀ w w', G w → Below w.heap.size w w' → G w') (hT : SupTurns G) (hL : SupLeast G) (hW : SupWait G) (n : Int) (l : List S3) (v : Value) (r f m t : Int) (w : World) (hG : G w) (hl : Sps w v l) :
    Calls Try.prog 4 #[.int .i64 n, v, .int .i64 r, .int .i64 f, .int .i64 m, .int .i64 t] w fun e w' => e = .returned (.bool true) ∧ Below w.heap.size w w' := by
  have hA : Below w.heap.size w (w.alloc (.cells #[.int .i64 0, .int .i64 1, .int .i64 3] 38)) := (Below.refl _ _).alloc (Nat.le_refl _) _
  have q1 : Calls Try.prog 8 #[.int .i64 4, .slice (some ⟨w.heap.size, 0, none⟩) 1 1, .int .i64 3, .int .i64 2] (w.alloc (.cells #[.int .i64 0, .int .i64 1, .int .i64 3] 38)) fun e w' => e = .returned (.tuple #[.int .i64 8, .nilIface]) ∧ Below w.heap.size w w' := by
    refine (hW 4 _ _ 3 2 _ (hall _ _ hG hA) (sps_one w _ rfl 0 1 3)).mono ?_
    rintro e w' ⟨k, rfl, k1, _, k3⟩
    have : k = 8 := wait_one (k1 toyS_ok) toyS_wait
    subst this
    rw [toyS_ok]
    exact ⟨rfl, hA.trans (k3.mono hA.size)⟩
  have HL : Hid (∀ x W, Below w.heap.size w W → Calls Try.prog 9 #[.int .i64 n, v, .int .i64 r, .int .i64 x] W fun e w' => e = .returned (.tuple #[.int .i64 (leastV n l r x), wErr (leastE n l r x)]) ∧ Below W.heap.size W w') := fun x W hb => hL n l v r x W (hall _ _ hG hb) (hl.all hb)
  have HT : Hid (∀ x W, Below w.heap.size w W → Calls Try.prog 10 #[.int .i64 n, v, .int .i64 r, .int .i64 f, .int .i64 x] W fun e w' => e = .returned (.tuple #[.int .i64 (turnsV n l r f x), wErr (turnsE n l r f x)]) ∧ Below W.heap.size W w') := fun x W hb => hT n l v r f x W (hall _ _ hG hb) (hl.all hb)
  have HWt : Hid (∀ W, Below w.heap.size w W → Calls Try.prog 8 #[.int .i64 n, v, .int .i64 r, .int .i64 t] W fun e w' => ∃ k : Nat, e = .returned (.tuple #[.int .i64 (k : Int), wErr (waitE n l r t)]) ∧ (waitE n l r t = 0 → WaitIs (hasT n l r) n.toNat t.toNat k) ∧ (waitE n l r t ≠ 0 → k = 0) ∧ Below W.heap.size W w') := fun W hb => hW n l v r t W (hall _ _ hG hb) (hl.all hb)
  have hmm : leastE n l r m = 0 → wrap64 (m + 1) = m + 1 := fun h => by
    obtain ⟨_, h2, h3⟩ := leastE_zero h
    exact IntWalk.wrap64_in _ ⟨by omega, by omega⟩
  have HF1 : Hid (leastE n l r m = 0 → leastE n l r (wrap64 (m + 1)) = 0 → leastV n l r m ≤ leastV n l r (wrap64 (m + 1)) ∧ leastV n l r (wrap64 (m + 1)) ≤ leastV n l r m + 1) := fun h1 h2 => by
    rw [hmm h1] at h2 ⊢
    exact least_two h1 h2
  have HF2 : Hid (leastE n l r m = 0 → turnsE n l r f m = 0 → leastV n l r m ≤ turnsV n l r f m) := fun h1 h2 => least_turns h1 h2
  obtain ⟨va, vc, rfl⟩ := hl.form
  clear hT hL hW hl hmm
  go_enter Try.func4, Try.ntmps4
  go_upto_region 8 with (first
    | (go_at_call 8; refine q1.mono ?_; rintro e w1 ⟨rfl, b1⟩; clear q1; have q2 := HL.out m w1 b1)
    | (go_at_call 9; refine q2.mono ?_; rintro e w2 ⟨rfl, b2⟩; clear q2; have B2 := b1.trans (b2.mono b1.size); have q3 := HL.out (wrap64 (m + 1)) w2 B2)
    | (go_at_call 9; refine q3.mono ?_; rintro e w3 ⟨rfl, b3⟩; clear q3; have B3 := B2.trans (b3.mono B2.size); have q4 := HT.out m w3 B3)
    | (go_at_call 10; refine q4.mono ?_; rintro e w4 ⟨rfl, b4⟩; clear q4; have B4 := B3.trans (b4.mono B3.size)))
  go_cut [16, 17, 18, 19, 20, 21, 95] from 29 to 95 (fun _ _ _ _ _ _ s95 wx => s95 = .bool false ∧ Below w.heap.size w wx)
  case first =>
    have har := leastV_range n l r m
    generalize leastV n l r m = a at HF1 HF2 har ⊢
    generalize leastE n l r m = ea at HF1 HF2 ⊢
    generalize leastV n l r (wrap64 (m + 1)) = b at HF1 ⊢
    generalize leastE n l r (wrap64 (m + 1)) = eb at HF1 ⊢
    generalize turnsV n l r f m = c at HF2 ⊢
    generalize turnsE n l r f m = et at HF2 ⊢
    obtain ⟨ha0, ha1⟩ := har
    by_cases h1 : ea = 0
    · subst h1
      rw [show wErr 0 = .nilIface from rfl]
      by_cases h2 : eb = 0
      · subst h2
        rw [show wErr 0 = .nilIface from rfl]
        obtain ⟨g1, g2⟩ := HF1.out rfl rfl
        have d1 : decide (b < a) = false := decide_eq_false (by omega)
        have d2 : decide (a + 1 < b) = false := decide_eq_false (by omega)
        by_cases h3 : et = 0
        · subst h3
          rw [show wErr 0 = .nilIface from rfl]
          have g3 := HF2.out rfl rfl
          have d3 : decide (c < a) = false := decide_eq_false (by omega)
          go_wp2_with fail
          go_meet
          case rel => exact ⟨rfl, B4⟩
        · rw [wErr_not h3]
          go_wp2_with fail
          go_meet
          case rel => exact ⟨rfl, B4⟩
      · rw [wErr_not h2]
        by_cases h3 : et = 0
        · subst h3
          rw [show wErr 0 = .nilIface from rfl]
          have g3 := HF2.out rfl rfl
          have d3 : decide (c < a) = false := decide_eq_false (by omega)
          go_wp2_with fail
          go_meet
          case rel => exact ⟨rfl, B4⟩
        · rw [wErr_not h3]
          go_wp2_with fail
          go_meet
          case rel => exact ⟨rfl, B4⟩
    · rw [wErr_not h1]
      go_wp2_with fail
      go_meet
      case rel => exact ⟨rfl, B4⟩
  case rest =>
  obtain ⟨rfl, B5⟩ := hcut
  have q5 := HWt.out wc B5
  clear HF1 HF2 B4 HWt b1 b2 b3 b4 B2 B3
  by_cases hew : waitE n (l) r t = 0
  · rw [hew, show wErr 0 = .nilIface from rfl] at q5
    have HWL : Hid (∀ k : Nat, WaitIs (hasT n l r) n.toNat t.toNat k → k ≤ 2000 → leastE n l r k = 0 ∧ t ≤ leastV n l r k ∧ (0 < k → leastE n l r ((k : Int) - 1) = 0 ∧ leastV n l r ((k : Int) - 1) < t)) := fun k h1 h2 => wait_least hew h1 h2
    clear hew
    go_upto_region 11 with (go_at_call 8; refine q5.mono ?_; rintro e w6 ⟨k, rfl, hk, _, b6⟩; clear q5)
    have B6 := B5.trans (b6.mono B5.size)
    have HK : Hid (WaitIs (hasT n l r) n.toNat t.toNat k) := hk trivial
    clear hk
    by_cases hbig : 1900 < k
    · have d1 : decide ((1900 : Int) < (k : Int)) = true := decide_eq_true (by omega)
      go_wp2
      go_ret
      exact ⟨rfl, B6⟩
    · have d1 : decide ((1900 : Int) < (k : Int)) = false := decide_eq_false (by omega)
      obtain ⟨g1, g2, g3⟩ := HWL.out k HK.out (by omega)
      have q6 := HL.out (k : Int) w6 B6
      rw [g1, show wErr 0 = .nilIface from rfl] at q6
      have HTk : Hid (turnsE n l r f (k : Int) = 0 → t ≤ turnsV n l r f (k : Int)) := fun h => Int.le_trans g2 (least_turns g1 h)
      have d2 : decide (leastV n l r (k : Int) < t) = false := decide_eq_false (by omega)
      generalize leastV n l r (k : Int) = x at q6 d2 g2
      clear g1 g2
      by_cases hk0 : 0 < k
      · obtain ⟨g4, g5⟩ := g3 hk0
        have d3 : (0 : Int) < (k : Int) := by omega
        have HL7 : Hid (∀ W, Below w.heap.size w W → Calls Try.prog 9 #[.int .i64 n, .slice va l.length vc, .int .i64 r, .int .i64 ((k : Int) - 1)] W fun e w' => e = .returned (.tuple #[.int .i64 (leastV n l r ((k : Int) - 1)), .nilIface]) ∧ Below W.heap.size W w') := fun W hb => by
          have := HL.out ((k : Int) - 1) W hb
          rw [g4] at this
          exact this
        have d4 : decide (t ≤ leastV n l r ((k : Int) - 1)) = false := decide_eq_false (by omega)
        generalize leastV n l r ((k : Int) - 1) = y at HL7 d4 g5
        clear g3 g4 g5 HL
        by_cases he2 : turnsE n l r f (k : Int) = 0
        · have g6 := HTk.out he2
          have q8 : Hid (∀ W, Below w.heap.size w W → Calls Try.prog 10 #[.int .i64 n, .slice va l.length vc, .int .i64 r, .int .i64 f, .int .i64 (k : Int)] W fun e w' => e = .returned (.tuple #[.int .i64 (turnsV n l r f k), .nilIface]) ∧ Below W.heap.size W w') := fun W hb => by
            have := HT.out (k : Int) W hb
            rw [he2] at this
            exact this
          have d5 : decide (t ≤ turnsV n l r f (k : Int)) = true := decide_eq_true g6
          generalize turnsV n l r f (k : Int) = z at q8 d5 g6
          clear HT HTk he2 g6
          go_wp2_with (first
            | (go_at_call 9; refine q6.mono ?_; rintro e w7 ⟨rfl, b7⟩; clear q6; have B7 := B6.trans (b7.mono B6.size); have q7 := HL7.out w7 B7; clear HL7)
            | (go_at_call 9; refine q7.mono ?_; rintro e w8 ⟨rfl, b8⟩; clear q7; have B8 := B7.trans (b8.mono B7.size); have q9 := q8.out w8 B8; clear q8)
            | (go_at_call 10; refine q9.mono ?_; rintro e w9 ⟨rfl, b9⟩; clear q9; have B9 := B8.trans (b9.mono B8.size)))
          go_ret
          exact ⟨by simp, B9⟩
        · have q8 : Hid (∀ W, Below w.heap.size w W → Calls Try.prog 10 #[.int .i64 n, .slice va l.length vc, .int .i64 r, .int .i64 f, .int .i64 (k : Int)] W fun e w' => e = .returned (.tuple #[.int .i64 (turnsV n l r f k), .iface 50 (.int .i64 (turnsE n l r f (k : Int)))]) ∧ Below W.heap.size W w') := fun W hb => by
            have := HT.out (k : Int) W hb
            rw [wErr_not he2] at this
            exact this
          generalize turnsV n l r f (k : Int) = z at q8
          generalize turnsE n l r f (k : Int) = ez at q8
          clear HT HTk he2
          go_wp2_with (first
            | (go_at_call 9; refine q6.mono ?_; rintro e w7 ⟨rfl, b7⟩; clear q6; have B7 := B6.trans (b7.mono B6.size); have q7 := HL7.out w7 B7; clear HL7)
            | (go_at_call 9; refine q7.mono ?_; rintro e w8 ⟨rfl, b8⟩; clear q7; have B8 := B7.trans (b8.mono B7.size); have q9 := q8.out w8 B8; clear q8)
            | (go_at_call 10; refine q9.mono ?_; rintro e w9 ⟨rfl, b9⟩; clear q9; have B9 := B8.trans (b9.mono B8.size)))
          go_ret
          exact ⟨rfl, B9⟩
      · have hke : k = 0 := by omega
        subst hke
        clear g3 HL
        by_cases he2 : turnsE n l r f ((0 : Nat) : Int) = 0
        · have g6 := HTk.out he2
          have q8 : Hid (∀ W, Below w.heap.size w W → Calls Try.prog 10 #[.int .i64 n, .slice va l.length vc, .int .i64 r, .int .i64 f, .int .i64 0] W fun e w' => e = .returned (.tuple #[.int .i64 (turnsV n l r f ((0 : Nat) : Int)), .nilIface]) ∧ Below W.heap.size W w') := fun W hb => by
            have := HT.out ((0 : Nat) : Int) W hb
            rw [he2] at this
            exact this
          have d5 : decide (t ≤ turnsV n l r f ((0 : Nat) : Int)) = true := decide_eq_true g6
          generalize turnsV n l r f ((0 : Nat) : Int) = z at q8 d5 g6
          clear HT HTk he2 g6
          rw [show ((0 : Nat) : Int) = 0 from rfl] at q6 ⊢
          go_wp2_with (first
            | (go_at_call 9; refine q6.mono ?_; rintro e w7 ⟨rfl, b7⟩; clear q6; have B7 := B6.trans (b7.mono B6.size); have q7 := q8.out w7 B7; clear q8)
            | (go_at_call 10; refine q7.mono ?_; rintro e w9 ⟨rfl, b9⟩; clear q7; have B9 := B7.trans (b9.mono B7.size)))
          go_ret
          exact ⟨by simp, B9⟩
        · have q8 : Hid (∀ W, Below w.heap.size w W → Calls Try.prog 10 #[.int .i64 n, .slice va l.length vc, .int .i64 r, .int .i64 f, .int .i64 0] W fun e w' => e = .returned (.tuple #[.int .i64 (turnsV n l r f ((0 : Nat) : Int)), .iface 50 (.int .i64 (turnsE n l r f ((0 : Nat) : Int)))]) ∧ Below W.heap.size W w') := fun W hb => by
            have := HT.out ((0 : Nat) : Int) W hb
            rw [wErr_not he2] at this
            exact this
          generalize turnsV n l r f ((0 : Nat) : Int) = z at q8
          generalize turnsE n l r f ((0 : Nat) : Int) = ez at q8
          clear HT HTk he2
          rw [show ((0 : Nat) : Int) = 0 from rfl] at q6 ⊢
          go_wp2_with (first
            | (go_at_call 9; refine q6.mono ?_; rintro e w7 ⟨rfl, b7⟩; clear q6; have B7 := B6.trans (b7.mono B6.size); have q7 := q8.out w7 B7; clear q8)
            | (go_at_call 10; refine q7.mono ?_; rintro e w9 ⟨rfl, b9⟩; clear q7; have B9 := B7.trans (b9.mono B7.size)))
          go_ret
          exact ⟨rfl, B9⟩
  · rw [wErr_not hew] at q5
    clear HL HT
    generalize waitE n l r t = ew at q5 hew
    go_wp2_with (go_at_call 8; refine q5.mono ?_; rintro e w6 ⟨k, rfl, _, _, b6⟩; clear q5)
    go_ret
    exact ⟨rfl, B5.trans (b6.mono B5.size)⟩
end Go.Proofs.Ytheenonakbokpag

/-
  The law AloneCounts: the walk, under what package alone does.
-/
import Derived.Test.YtanndhamnfnjfaeDoorJa2
import Derived.Test.YtanndhamnfnjfaeDoorCountPlan2
import Derived.Test.YtanndhamnfnjfaeDoorJa7
import Derived.Deep.CutRange
import Derived.Deep.RegionWith
import Derived.BigQuiet
import Derived.RangeFuncNested
namespace Go.Proofs.YtanndhamnfnjfaeDoor
open Go.RowKit

/-- A room that counts, alone, behind so many steps. -/
def cntA (i : Nat) : AD := ⟨cntC, 1, cntS i, i⟩
theorem cntA_new : newA (cntP 3) 1 = cntA 0 := by
  unfold cntA
  rw [cntS_new]
  rfl
theorem cntA_op (i : Nat) : (cntA i).op = if i % 2 = 0 then (1, 1, 1) else (3, 0, 1) := by
  unfold AD.op cntA cntC cntS
  rcases Nat.mod_two_eq_zero_or_one i with h | h <;> simp [h]
theorem cntA_step (i : Nat) : stepA (cntA i) 0 false = cntA (i + 1) := by
  have h : stepF (cntA i).op (cntS i) 2 0 false = cntS (i + 1) := by
    rw [cntA_op]
    rcases Nat.mod_two_eq_zero_or_one i with h | h
    · rw [if_pos h]; exact cntS_even i h
    · rw [if_neg (by omega)]; exact cntS_odd i h
  unfold stepA
  show AD.mk cntC 1 (stepF (cntA i).op (cntS i) 2 0 false) ((i : Int) + 1) = _
  rw [h]
  unfold cntA
  congr 1
theorem cntA_ev (i : Nat) : evOf (cntA i) false = ((i : Int), 1, ((i % 2 : Nat) : Int), 0) := by
  have h : whatF (cntA i).op (cntA i).s false = 0 := by
    rw [cntA_op]
    rcases Nat.mod_two_eq_zero_or_one i with h | h <;> simp [whatF, cntA, cntS, h]
  unfold evOf
  rw [h]
  rfl
theorem cntA_sent (i : Nat) : sentA (cntA i) = -1 := by
  unfold sentA
  rw [cntA_op]
  rcases Nat.mod_two_eq_zero_or_one i with h | h <;> simp [sendF, sentF, cntA, cntS, h]
theorem cntA_ok (i : Nat) : AOk (cntA i) := by
  induction i with
  | zero => rw [← cntA_new]; exact newA_ok (by decide +kernel)
  | succ i ih => rw [← cntA_step]; exact stepA_ok ih (fun h => by cases h.1)
/-- The cells of a state that is a value. -/
theorem field_cells (a b c d e f g : Int) (h : Bool) (w : World) : (Instr.field 35 (.agg #[.int .i64 a, .int .i64 b, .int .i64 c, .int .i64 d, .int .i64 e, .int .i64 f, .int .i64 g, .bool h]) 1).run Tryd.prog w = .ok (.agg #[.int .i64 b, .int .i64 c, .int .i64 d, .int .i64 e, .int .i64 f, .int .i64 g]) w := by kernel_rfl
theorem index_cells (b c d e f g : Int) (w : World) : (Instr.index 33 (.agg #[.int .i64 b, .int .i64 c, .int .i64 d, .int .i64 e, .int .i64 f, .int .i64 g]) (.int .i64 0)).run Tryd.prog w = .ok (.int .i64 b) w := by kernel_rfl
set_option maxRecDepth 100000 in
set_option maxHeartbeats 8000000 in
theorem acounts_of {G : World → Prop} (C : AlnC G) (n : Int) (w : World) (hG : G w) :
    Calls Tryd.prog 7 #[.int .i64 n] w fun e w' => e = .returned (.bool true) ∧ Below w.heap.size w w' := by
  have HC : Hid (G w) := hG
  have q1 := counting_plan 3 w (by omega)
  have HN : Hid (∀ vc vs W, Below w.heap.size w W → Pln W vc vs (.slice none 0 0) (cntP 3) → Calls Tryd.prog 17 #[plV vc 3 vs (.slice none 0 0), .int .i64 1] W fun e w' => ∃ ab F, e = .returned (.tuple #[.pointer (some ⟨ab, 0, none⟩), .nilIface]) ∧ C.A W w' (cntA 0) ab F) := fun vc vs W hb hP => by
    have := C.new (cntP 3) vc vs _ 1 W (C.all _ _ HC.out hb) hP (by decide +kernel)
    rw [cntA_new] at this
    exact this
  clear hG
  by_cases hn : n < 0 ∨ 300 < n
  · have hcase : decide (n < 0) = true ∨ (decide (n < 0) = false ∧ decide (300 < n) = true) := by
      by_cases h : n < 0
      · exact Or.inl (decide_eq_true h)
      · exact Or.inr ⟨decide_eq_false h, decide_eq_true (hn.resolve_left h)⟩
    clear hn
    rcases hcase with h1 | ⟨h1, h2⟩
    · go_enter Tryd.func7, Tryd.ntmps7
      go_wp2_with (first
        | (go_at_call 9; refine q1.mono ?_; rintro e w1 ⟨vc, vs, rfl, hP, b1⟩; clear q1)
        | (go_at_call 17; refine (HN.out vc vs w1 b1 hP).mono ?_; rintro e w2 ⟨ab, F, rfl, hA⟩))
      go_ret
      exact ⟨rfl, b1.trans ((C.since hA).mono b1.size)⟩
    · go_enter Tryd.func7, Tryd.ntmps7
      go_wp2_with (first
        | (go_at_call 9; refine q1.mono ?_; rintro e w1 ⟨vc, vs, rfl, hP, b1⟩; clear q1)
        | (go_at_call 17; refine (HN.out vc vs w1 b1 hP).mono ?_; rintro e w2 ⟨ab, F, rfl, hA⟩))
      go_ret
      exact ⟨rfl, b1.trans ((C.since hA).mono b1.size)⟩
  obtain ⟨m, rfl⟩ : ∃ m : Nat, n = m := ⟨n.toNat, by omega⟩
  have hm : m ≤ 300 := by omega
  have h1 : decide ((m : Int) < 0) = false := decide_eq_false (by omega)
  have h2 : decide (300 < (m : Int)) = false := decide_eq_false (by omega)
  clear hn
  go_enter Tryd.func7, Tryd.ntmps7
  go_wp2_with (first
    | (go_at_call 9; refine q1.mono ?_; rintro e w1 ⟨vc, vs, rfl, hP, b1⟩; clear q1)
    | (go_at_call 17; refine (HN.out vc vs w1 b1 hP).mono ?_; rintro e w2 ⟨ab, F, rfl, hA⟩))
  have HG1 : Hid (G w1) := C.all _ _ HC.out b1
  clear hP HN
  go_loopw [5] (fun s5 wr => ∃ (i : Nat) (F : List Nat), i ≤ m ∧ s5 = .int .i64 i ∧ C.A w1 wr (cntA i) ab F) (fun s _ => m - (intOf s).toNat)
  case atStart => exact ⟨0, F, Nat.zero_le _, rfl, hA⟩
  case round =>
    clear hA
    obtain ⟨i, F', him, rfl, hA⟩ := hrel
    by_cases hil : i < m
    · have hii : (i : Int) < (m : Int) := by omega
      have HS : Hid (Calls Tryd.prog 18 #[.pointer (some ⟨ab, 0, none⟩), .int .i64 0, .bool false] wr fun e w' => e = .returned (.tuple #[.agg #[.int .i64 i, .int .i64 1, .int .i64 ((i % 2 : Nat) : Int), .int .i64 0], .int .i64 (-1), .nilIface]) ∧ ∃ F', C.A w1 w' (cntA (i + 1)) ab F') := by
        refine (C.step 0 false HG1.out hA (cntA_ok i) (fun h => by cases h.1) (by show (i : Int) < _; omega)).mono ?_
        rintro e w' ⟨rfl, F2, h3, _, _⟩
        rw [cntA_step] at h3
        rw [cntA_ev, cntA_sent]
        exact ⟨rfl, F2, h3⟩
      clear hA
      go_wp2_with (go_at_call 18; refine HS.out.mono ?_; rintro e w3 ⟨rfl, F3, hA3⟩)
      go_roundw
      case rel => exact ⟨i + 1, F3, by omega, by go_num, C.frame hA3 (KTouch.of (M := []) ((Below.refl _ _).alloc (Nat.le_refl _) _)) (by simp)⟩
      case measure => simp [intOf]; omega
    · obtain rfl : i = m := by omega
      have hii : decide ((i : Int) < (i : Int)) = false := decide_eq_false (by omega)
      have hin : decide (i < i) = false := decide_eq_false (by omega)
      have HT : Hid (Calls Tryd.prog 20 #[.pointer (some ⟨ab, 0, none⟩)] wr fun e w' => e = .returned (.int .i64 i) ∧ Below wr.heap.size wr w') := (C.turns hA).mono (by
        rintro e w' ⟨rfl, k, rfl⟩
        exact ⟨rfl, below_dN (Below.refl _ _) _⟩)
      have HSt : Hid (∀ W, Below wr.heap.size wr W → Calls Tryd.prog 19 #[.pointer (some ⟨ab, 0, none⟩)] W fun e w' => (∃ s : St, s.c 0 = (i : Int) / 2 ∧ e = .returned (.agg #[.int .i64 s.p, .int .i64 (s.c 0), .int .i64 (s.c 1), .int .i64 (s.c 2), .int .i64 (s.c 3), .int .i64 (s.c 4), .int .i64 (s.c 5), .bool s.f])) ∧ Below W.heap.size W w') := fun W hb => by
        refine (C.state (C.frame hA (KTouch.of (M := []) hb) (by simp))).mono ?_
        rintro e w' ⟨rfl, h3⟩
        refine ⟨⟨cntS i, ?_, rfl⟩, h3⟩
        show ((((i / 2) % 1000 : Nat) : Int)) = (i : Int) / 2
        omega
      have hbw := C.since hA
      clear hA
      have hfd := field_cells
      have hix := index_cells
      go_wp2_with (first
        | (go_at_call 20; refine HT.out.mono ?_; rintro e w3 ⟨rfl, b3⟩)
        | (go_at_call 19; refine (HSt.out _ b3).mono ?_; rintro e w4 ⟨⟨s, hs0, rfl⟩, b4⟩))
      go_ret
      exact ⟨rfl, (b1.trans (hbw.mono b1.size)).trans ((b3.trans (b4.mono b3.size)).mono (by have := b1.size; have := hbw.size; omega))⟩
end Go.Proofs.YtanndhamnfnjfaeDoor

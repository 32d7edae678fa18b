/-
  The law KernelCounts: the walk, under what package kernel does.
-/
import Derived.Test.YteoemcekkcnpladDoorJa3
import Derived.Test.YteoemcekkcnpladDoorCountPlan2
import Derived.Deep.CutRange
import Derived.Deep.RegionWith
import Derived.BigQuiet
import Derived.RangeFuncNested
import Derived.Test.YteoemcekkcnpladDoorJa8
namespace Go.Proofs.YteoemcekkcnpladDoor
open Go.RowKit

/-- Numbers of rooms and turns that the law passes by. -/
def outC (n m : Int) : Bool := decide (n < 1) || decide (5 < n) || decide (m < 0) || decide (40 < m)
theorem outC_false {n m : Int} (h : outC n m = false) : 1 ≤ n ∧ n ≤ 5 ∧ 0 ≤ m ∧ m ≤ 40 := by
  unfold outC at h
  simp only [Bool.or_eq_false_iff, decide_eq_false_iff_not] at h
  omega
theorem mul_le {n m : Nat} (hn : n ≤ 5) (hm : m ≤ 40) : 2 * n * m ≤ 400 := by
  have := Nat.mul_le_mul (Nat.mul_le_mul (Nat.le_refl 2) hn) hm
  omega
set_option maxRecDepth 1000000 in
set_option maxHeartbeats 8000000 in
theorem kcounts_of {G : World → Prop} (C : KerC G) (CT : KerTime C) (n m : Int) (w : World) (hG : G w) :
    Calls Tryd.prog 5 #[.int .i64 n, .int .i64 m] w fun e w' => e = .returned (.bool true) ∧ Below w.heap.size w w' := by
  have HC : Hid (G w) := hG
  clear hG
  go_enter Tryd.func5, Tryd.ntmps5
  go_upto_region 1 with fail
  go_cut [24] from 11 to 23 (fun s24 wx => s24 = .bool (outC n m) ∧ wx = w)
  case first =>
    by_cases h0 : n < 1
    · have HX : Hid (outC n m = true) := by show _ = _; unfold outC; simp [h0]
      go_wp2_with fail
      go_meet
      case rel => exact ⟨by rw [HX.out], rfl⟩
    have h0' : decide (n < 1) = false := decide_eq_false h0
    by_cases h1 : 5 < n
    · have HX : Hid (outC n m = true) := by show _ = _; unfold outC; simp [h1]
      go_wp2_with fail
      go_meet
      case rel => exact ⟨by rw [HX.out], rfl⟩
    have h1' : decide (5 < n) = false := decide_eq_false h1
    by_cases h2 : m < 0
    · have HX : Hid (outC n m = true) := by show _ = _; unfold outC; simp [h2]
      go_wp2_with fail
      go_meet
      case rel => exact ⟨by rw [HX.out], rfl⟩
    have h2' : decide (m < 0) = false := decide_eq_false h2
    have HX : Hid (outC n m = decide (40 < m)) := by show _ = _; unfold outC; simp [h0', h1', h2']
    go_wp2_with fail
    go_meet
    case rel => exact ⟨by rw [HX.out], rfl⟩
  case rest =>
  obtain ⟨rfl, hwc⟩ := hcut
  rw [hwc]
  clear hwc
  cases hb : outC n m with
  | true =>
    go_wp2
    go_ret
    exact ⟨rfl, Below.refl _ _⟩
  | false =>
    obtain ⟨h1, h2, h3, h4⟩ := outC_false hb
    clear hb
    obtain ⟨nn, rfl⟩ : ∃ k : Nat, n = k := ⟨n.toNat, by omega⟩
    obtain ⟨mm, rfl⟩ : ∃ k : Nat, m = k := ⟨m.toNat, by omega⟩
    have hn0 : 0 < nn := by omega
    have hn6 : nn < 6 := by omega
    have hm40 : mm ≤ 40 := by omega
    obtain ⟨N, hN⟩ : ∃ N, N = 2 * nn * mm := ⟨_, rfl⟩
    have HN : Hid (N = 2 * nn * mm) := hN
    have hN4 : N ≤ 400 := by rw [hN]; exact mul_le (by omega) hm40
    have hmul : 2 * (nn : Int) * (mm : Int) = (N : Int) := by rw [hN]; simp
    clear hN
    have hc := counting_plan nn w (by omega)
    have HNew : Hid (∀ vc vs W, Below w.heap.size w W → Pln W vc vs (.slice none 0 0) (cntP nn) → Calls Tryd.prog 10 #[plV vc nn vs (.slice none 0 0)] W fun e w' => ∃ kb F, e = .returned (.tuple #[.pointer (some ⟨kb, 0, none⟩), .nilIface]) ∧ C.K W w' (cntP nn) vc vs (.slice none 0 0) (cntK nn 0) kb F) := fun vc vs W hb hP => by
      have := C.new (cntP nn) vc vs (.slice none 0 0) W (C.all w W HC.out hb) hP (cntP_ok nn hn6 hn0)
      rw [cntK_new] at this
      exact this
    unfold plV at hc HNew
    go_upto_region 6 with (first
      | (go_at_call 17; refine hc.mono ?_; rintro e w1 ⟨vc, vs, rfl, hP, b1⟩; clear hc; have q1 := HNew.out vc vs w1 b1 hP; clear hP)
      | (go_at_call 10; refine q1.mono ?_; rintro e w2 ⟨kb, F, rfl, hK⟩; clear q1))
    have HG1 : Hid (G w1) := C.all w w1 HC.out b1
    go_wp2
    go_loopw [7] (fun i wr => ∃ (t : Nat) (F : List Nat), t ≤ N ∧ i = .int .i64 t ∧ C.K w1 wr (cntP nn) vc vs (.slice none 0 0) (cntK nn t) kb F) (fun i _ => N - (intOf i).toNat)
    case atStart => exact ⟨0, F, Nat.zero_le _, rfl, hK⟩
    case round =>
    clear hK
    obtain ⟨t, F1, ht, rfl, hK⟩ := hrel
    by_cases htN : t < N
    · have hti : (t : Int) < (N : Int) := by omega
      have HTk : Hid (Calls Tryd.prog 11 #[.pointer (some ⟨kb, 0, none⟩)] wr fun e w' => ∃ ev F', e = .returned ev ∧ C.K w1 w' (cntP nn) vc vs (.slice none 0 0) (cntK nn (t + 1)) kb F') := (C.tick HG1.out hK (cntP_ok nn hn6 hn0) (cntK_ok hn0 hn6 t) (by show (t : Int) < 1000000; omega)).mono (by
        rintro e w' ⟨rfl, F', h1, _, _⟩
        rw [cntK_tick hn0 hn6] at h1
        exact ⟨_, F', rfl, h1⟩)
      clear hK
      go_wp2_with (go_at_call 11; refine HTk.out.mono ?_; rintro e w3 ⟨ev, F', rfl, hK'⟩; clear HTk)
      go_roundw
      case rel => exact ⟨t + 1, F', by omega, by go_num, hK'⟩
      case measure => simp [intOf]; omega
    obtain rfl : t = N := by omega
    have hti : decide ((t : Int) < (t : Int)) = false := decide_eq_false (by omega)
    have htn : decide (t < t) = false := decide_eq_false (by omega)
    go_wp2
    rename World => wo
    go_loopw [8] (fun i wr => ∃ (r : Nat), r ≤ nn ∧ i = .int .i64 r ∧ C.K w1 wr (cntP nn) vc vs (.slice none 0 0) (cntK nn t) kb F1) (fun i _ => nn - (intOf i).toNat)
    case atStart => exact ⟨0, Nat.zero_le _, rfl, hK⟩
    case round =>
    clear hK
    obtain ⟨r, hr, rfl, hK⟩ := hrel
    have hbw : Below w.heap.size w wr := b1.trans ((C.since hK).mono b1.size)
    by_cases hrn : r < nn
    · have hri : (r : Int) < (nn : Int) := by omega
      have HSt : Hid (Calls Tryd.prog 12 #[.pointer (some ⟨kb, 0, none⟩), .int .i64 r] wr fun e w' => (∃ x1 x2 x3 x4 x5 : Int, e = .returned (.tuple #[.agg #[.int .i64 0, .int .i64 mm, .int .i64 x1, .int .i64 x2, .int .i64 x3, .int .i64 x4, .int .i64 x5, .bool false], .nilIface])) ∧ C.K w1 w' (cntP nn) vc vs (.slice none 0 0) (cntK nn t) kb F1) := (C.state (r : Int) hK (cntK_ok hn0 hn6 t) (cntP_ok nn hn6 hn0)).mono (by
        rintro e w' ⟨rfl, hb⟩
        have hl : (cntK nn t).rooms.length = nn := by simp [cntK]
        have hno : noRoom (cntK nn t) (r : Int) = false := by unfold noRoom; rw [hl]; simp [hrn]
        have hrm : roomK (cntK nn t) (r : Int) = cntS (2 * mm) := by
          unfold roomK
          rw [hno, if_neg (by decide), Int.toNat_natCast]
          simp only [List.getD, cntK_room hrn, Option.getD_some]
          rw [HN.out, cntT_whole hn0 hrn]
        obtain ⟨e1, e2⟩ := cntS_whole hm40
        refine ⟨⟨(cntS (2 * mm)).c 1, (cntS (2 * mm)).c 2, (cntS (2 * mm)).c 3, (cntS (2 * mm)).c 4, (cntS (2 * mm)).c 5, ?_⟩, C.frame hK (KTouch.of (M := []) hb) (by simp)⟩
        rw [hno, hrm]
        unfold stA
        rw [e1, e2]
        rfl)
      clear hK hbw
      go_wp2_with (go_at_call 12; refine HSt.out.mono ?_; rintro e w3 ⟨⟨x1, x2, x3, x4, x5, rfl⟩, hK'⟩; clear HSt)
      go_roundw
      case rel => exact ⟨r + 1, by omega, by go_num, C.frame hK' (KTouch.of (M := []) ((Below.refl _ w3).alloc (Nat.le_refl _) _)) (by simp)⟩
      case measure => simp [intOf]; omega
    have hri : decide ((r : Int) < (nn : Int)) = false := decide_eq_false (by omega)
    have hrn' : decide (r < nn) = false := decide_eq_false (by omega)
    have HT : Hid (Calls Tryd.prog 13 #[.pointer (some ⟨kb, 0, none⟩)] wr fun e w' => e = .returned (.int .i64 t) ∧ Below w.heap.size w w') := (CT hK).mono (by
      rintro e w' ⟨rfl, q, rfl⟩
      exact ⟨rfl, below_dN hbw q⟩)
    clear hK hbw
    go_wp2_with (go_at_call 13; refine HT.out.mono ?_; rintro e w3 ⟨rfl, hb3⟩; clear HT)
    go_ret
    exact ⟨rfl, hb3⟩
end Go.Proofs.YteoemcekkcnpladDoor

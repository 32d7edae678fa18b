/-
  The law TraceBack, of what package trace promises.
-/
import Derived.Test.YtfconbblnmbnpahGreatDoorJc12
import Derived.Test.YtfconbblnmbnpahGreatDoorJc3
import Derived.Test.YtfconbblnmbnpahGreatDoorJc1
import Derived.Deep.CutRange
import Derived.RangeFuncNested
namespace Go.Proofs.YtfconbblnmbnpahGreatDoor
open Go.RowKit

/-- The law's own text. -/
def toyE : List W4 := [(0, -1, 0, 0), (1, 2, 3, 1)]
theorem toyE_ok : evchk toyE = 0 := by decide +kernel
theorem itoa_one {z : Int} (h0 : 0 ≤ z) (h1 : z < 10) : Lib.itoa z = [UInt8.ofNat (48 + z.toNat)] := by rw [itoa_pos h0, Lib.decDigits_one (by omega)]
theorem toyE_text : evB toyE = [48, 32, 45, 32, 48, 32, 48, 10, 49, 32, 50, 32, 51, 32, 49, 10] := by
  unfold evB toyE endL evL rmB tail
  simp [itoa_one]
theorem toyE_read : evP [48, 32, 45, 32, 48, 32, 48, 10, 49, 32, 50, 32, 51, 32, 49, 10] = (toyE, 0) := by rw [← toyE_text]; exact ev_read toyE_ok
/-- How many there are of the rooms so far. -/
def sumR (l : List W4) : Nat → Nat
  | 0 => 0
  | k + 1 => sumR l k + (ofR l ((k : Int) - 1)).length
theorem sumR_all {l : List W4} (h : ∀ e ∈ l, evBad e = 0) : sumR l 6 = l.length := by
  have := of_all h
  simp only [sumR]
  simp only [show ((0 : Nat) : Int) - 1 = -1 from rfl, show ((1 : Nat) : Int) - 1 = 0 from rfl, show ((2 : Nat) : Int) - 1 = 1 from rfl, show ((3 : Nat) : Int) - 1 = 2 from rfl, show ((4 : Nat) : Int) - 1 = 3 from rfl, show ((5 : Nat) : Int) - 1 = 4 from rfl]
  omega
theorem sumR_le (l : List W4) : ∀ k, sumR l k ≤ k * l.length
  | 0 => by simp [sumR]
  | k + 1 => by
    have := sumR_le l k
    have h2 : (ofR l ((k : Int) - 1)).length ≤ l.length := List.length_filter_le _ _
    rw [sumR, Nat.add_mul]
    omega
def sumC (l : List W4) : Nat → Nat
  | 0 => 0
  | k + 1 => sumC l k + cntW l (k : Int)
theorem sumC_all {l : List W4} (h : ∀ e ∈ l, evBad e = 0) : sumC l 6 = l.length := by
  have := counts_all h
  simp only [sumC]
  simp only [show ((0 : Nat) : Int) = 0 from rfl, show ((1 : Nat) : Int) = 1 from rfl, show ((2 : Nat) : Int) = 2 from rfl, show ((3 : Nat) : Int) = 3 from rfl, show ((4 : Nat) : Int) = 4 from rfl, show ((5 : Nat) : Int) = 5 from rfl]
  omega
theorem sumC_le (l : List W4) : ∀ k, sumC l k ≤ k * l.length
  | 0 => by simp [sumC]
  | k + 1 => by
    have := sumC_le l k
    have h2 : cntW l (k : Int) ≤ l.length := List.length_filter_le _ _
    rw [sumC, Nat.add_mul]
    omega
theorem countsL_at (l : List W4) {k : Nat} (hk : k < 6) : (countsL l)[k]? = some (cntW l (k : Int) : Int) := by
  unfold countsL
  match k, hk with
  | 0, _ => rfl
  | 1, _ => rfl
  | 2, _ => rfl
  | 3, _ => rfl
  | 4, _ => rfl
  | 5, _ => rfl
/-- A shorter row is a beginning of a longer one. -/
theorem wrs_take {w : World} {b off cap m n : Nat} {l : List W4} (h : Wrs w (.slice (some ⟨b, off, none⟩) m cap) l) (hm : l.length = m) (h0 : 0 < m) (hn : n ≤ m) : Wrs w (.slice (some ⟨b, off, none⟩) n cap) (l.take n) := by
  rcases h with ⟨h1, ao, c, e⟩ | ⟨b', off', cap', e, h1, h2, h3⟩
  · rw [h1] at hm
    simp at hm
    omega
  · injection e with e1 e2 e3
    injection e1 with e1
    injection e1 with e4 e5
    subst e4
    subst e5
    subst e3
    have hl : (l.take n).length = n := by rw [List.length_take]; omega
    refine Or.inr ⟨b, off, cap, by rw [hl], by rw [hl]; omega, h2, fun i x hx => h3 i x ?_⟩
    have hi : i < n := by have := (List.getElem?_eq_some_iff.1 hx).1; omega
    rwa [List.getElem?_take_of_lt hi] at hx
set_option maxRecDepth 100000 in
set_option maxHeartbeats 16000000 in
theorem trback_of {G : World → Prop} (hall : ∀ w w', G w → Below w.heap.size w w' → G w') (hR : TrcRun G) (hO : TrcOf G) (hC : TrcCounts G) (hP : TrcPrint G) (hQ : TrcParse G)
    (p : PD) (vc vs vw : Value) (n : Int) (l : List W4) (v : Value) (t : ByteArray) (w : World) (hG : G w) (hPl : Pln w vc vs vw p) (hl : Wrs w v l) (ht : t.size ≤ 140737488355328) :
    Calls Tryz.prog 4 #[plV vc p.ticks vs vw, .int .i64 n, v, .string t] w fun e w' => e = .returned (.bool true) ∧ Below w.heap.size w w' := by
  obtain ⟨ca, cc, rfl⟩ := hPl.code.form
  obtain ⟨sa, sc, rfl⟩ := hPl.spans.form
  obtain ⟨wa, wc', rfl⟩ := hPl.wires.form
  have hx0 := Bx.first w (.slice ca p.code.length cc) p.ticks (.slice sa p.spans.length sc) (.slice wa p.wires.length wc')
  have HR : Hid (∀ m W, Below w.heap.size w W → Calls Tryz.prog 10 #[.agg #[.slice ca p.code.length cc, .int .i64 p.ticks, .slice sa p.spans.length sc, .slice wa p.wires.length wc'], .int .i64 m] W fun e w' => ∃ ua uc, e = .returned (.tuple #[.slice ua (trV p m).length uc, wErr (trE p m)]) ∧ Hid (Wrs w' (.slice ua (trV p m).length uc) (trV p m)) ∧ Below W.heap.size W w') := fun m W hb => by
    refine (hR p _ _ _ m W (hall _ _ hG hb) (hPl.all hb)).mono ?_
    rintro e w' ⟨u, rfl, hu, hb⟩
    obtain ⟨ua, uc, rfl⟩ := hu.form
    exact ⟨ua, uc, rfl, hu, hb⟩
  have HO : Hid (evchk l = 0 → ∀ r W, -1 ≤ r ∧ r ≤ 4 → Below w.heap.size w W → Calls Tryz.prog 18 #[v, .int .i64 r] W fun e w' => ∃ ua uc, e = .returned (.tuple #[.slice ua (ofR l r).length uc, .nilIface]) ∧ Below W.heap.size W w') := fun h r W hr hb => by
    refine (hO l v r W (hall _ _ hG hb) (hl.all hb)).mono ?_
    rintro e w' ⟨u, rfl, hu, hb⟩
    have e0 : ofE l r = 0 := by unfold ofE; rw [if_pos h, if_neg (by omega)]
    unfold ofV at hu
    rw [if_pos e0] at hu
    obtain ⟨ua, uc, rfl⟩ := hu.form
    exact ⟨ua, uc, by rw [e0]; rfl, hb⟩
  have HC : Hid (evchk l = 0 → ∀ W, Below w.heap.size w W → Calls Tryz.prog 16 #[v] W fun e w' => ∃ ug uo uc, e = .returned (.tuple #[.slice (some ⟨ug, uo, none⟩) 6 uc, .nilIface]) ∧ ug < w'.heap.size ∧ Hid (∀ k : Nat, k < 6 → w'.cell? ⟨ug, uo + k, none⟩ = some (.int .i64 (cntW l (k : Int) : Int))) ∧ Below W.heap.size W w') := fun h W hb => by
    refine (hC l v W (hall _ _ hG hb) (hl.all hb)).mono ?_
    rintro e w' ⟨u, rfl, hu, hb⟩
    unfold countsV at hu
    rw [if_pos h] at hu
    rcases hu with ⟨h0, _⟩ | ⟨g, o, k, rfl, hlt, hc⟩
    · cases h0
    · exact ⟨g, o, k, by rw [h]; rfl, hlt, fun k hk => hc k _ (countsL_at l hk), hb⟩
  have HPr : Hid (∀ (es : List W4) (u : Value) W, Below w.heap.size w W → Wrs W u es → Calls Tryz.prog 15 #[u] W fun e w' => e = .returned (.tuple #[.string ⟨(evTx es).toArray⟩, wErr (evchk es)]) ∧ Below W.heap.size W w') := fun es u W hb hu => hP es u W (hall _ _ hG hb) hu
  have HPa : Hid (∀ (s : ByteArray) W, Below w.heap.size w W → s.size ≤ 140737488355328 → Calls Tryz.prog 20 #[.string s] W fun e w' => ∃ ua uc, e = .returned (.tuple #[.slice ua (evP s.data.toList).1.length uc, wErr (evP s.data.toList).2]) ∧ Hid (Wrs w' (.slice ua (evP s.data.toList).1.length uc) (evP s.data.toList).1) ∧ Below W.heap.size W w') := fun s W hb hsz => by
    refine (hQ s W (hall _ _ hG hb) hsz).mono ?_
    rintro e w' ⟨u, rfl, hu, hb⟩
    obtain ⟨ua, uc, rfl⟩ := hu.form
    exact ⟨ua, uc, rfl, hu, hb⟩
  have HL : Hid (Wrs w v l) := hl
  obtain ⟨la, lc, rfl⟩ := hl.form
  have q1 := HPa.out ⟨#[48, 32, 45, 32, 48, 32, 48, 10, 49, 32, 50, 32, 51, 32, 49, 10]⟩ _ hx0.below (by decide)
  rw [show (⟨#[48, 32, 45, 32, 48, 32, 48, 10, 49, 32, 50, 32, 51, 32, 49, 10]⟩ : ByteArray).data.toList = [48, 32, 45, 32, 48, 32, 48, 10, 49, 32, 50, 32, 51, 32, 49, 10] from rfl, toyE_read] at q1
  unfold plV
  clear hR hO hC hP hQ hl hPl
  have q1' : Calls Tryz.prog 20 #[.string ⟨#[48, 32, 45, 32, 48, 32, 48, 10, 49, 32, 50, 32, 51, 32, 49, 10]⟩] (w.alloc (.cells #[.slice ca p.code.length cc, .int .i64 p.ticks, .slice sa p.spans.length sc, .slice wa p.wires.length wc'] 26)) fun e w' => ∃ ug uo uc, e = .returned (.tuple #[.slice (some ⟨ug, uo, none⟩) 2 uc, .nilIface]) ∧ w'.cell? ⟨ug, uo + 1, none⟩ = some (.int .i64 (-1)) ∧ w'.cell? ⟨ug, uo + 6, none⟩ = some (.int .i64 3) ∧ Below (w.alloc (.cells #[.slice ca p.code.length cc, .int .i64 p.ticks, .slice sa p.spans.length sc, .slice wa p.wires.length wc'] 26)).heap.size (w.alloc (.cells #[.slice ca p.code.length cc, .int .i64 p.ticks, .slice sa p.spans.length sc, .slice wa p.wires.length wc'] 26)) w' := by
    refine q1.mono ?_
    rintro e w' ⟨ua, uc, rfl, hu, hb⟩
    rcases hu.out with ⟨h0, _⟩ | ⟨b, off, cap, e1, _, _, h3⟩
    · cases h0
    · injection e1 with e2 e3 e4
      subst e2
      have c0 := (h3 0 _ rfl).2.1
      have c1 := (h3 1 _ rfl).2.2.1
      exact ⟨b, off, uc, rfl, by simpa using c0, by simpa using c1, hb⟩
  clear q1
  go_enter Tryz.func4, Tryz.ntmps4
  go_upto_region 4 with (go_at_call 20; refine q1'.mono ?_; rintro e w1 ⟨ug, uo, uc, rfl, c0, c1, b1⟩; clear q1')
  have hx1 := hx0.step b1
  clear c0 c1 b1 hx0
  have q2 := HPa.out t w1 hx1.below ht
  go_upto_region 5 with (go_at_call 20; refine q2.mono ?_; rintro e w2 ⟨xa, xc, rfl, HX, b2⟩; clear q2)
  have hx2 := hx1.step b2
  clear hx1 b2
  go_cut [11, 12, 60] from 54 to 59 (fun s11 _ sb wx => s11 = .slice xa (evP t.data.toList).1.length xc ∧ sb = .bool (decide ((evP t.data.toList).2 = 0)) ∧ wx = w2)
  case first =>
    by_cases h0 : (evP t.data.toList).2 = 0
    · rw [h0, show wErr 0 = .nilIface from rfl]
      have HX0 : Hid (decide ((evP t.data.toList).2 = 0) = true) := decide_eq_true h0
      clear h0
      go_wp2_with fail
      go_meet
      case rel => exact ⟨rfl, by rw [HX0.out], rfl⟩
    · rw [wErr_not h0]
      have HX0 : Hid (decide ((evP t.data.toList).2 = 0) = false) := decide_eq_false h0
      clear h0
      go_wp2_with fail
      go_meet
      case rel => exact ⟨rfl, by rw [HX0.out], rfl⟩
  case rest =>
  obtain ⟨rfl, rfl, hwc⟩ := hcut
  rw [hwc]
  clear hwc wc
  go_step
  go_cut [13, 14] from 60 to 72 (fun _ _ wx => Bx w wx (.slice ca p.code.length cc) p.ticks (.slice sa p.spans.length sc) (.slice wa p.wires.length wc'))
  case first =>
    by_cases h0 : (evP t.data.toList).2 = 0
    · have q3 := HPr.out _ _ w2 hx2.below HX.out
      obtain ⟨hk, hb⟩ := ev_back h0
      have ht2 : (⟨(evTx (evP t.data.toList).1).toArray⟩ : ByteArray) = t := by
        unfold evTx
        rw [if_pos hk, hb]
      rw [hk, ht2, show wErr 0 = .nilIface from rfl] at q3
      rw [show decide ((evP t.data.toList).2 = 0) = true from decide_eq_true h0]
      clear h0 hk hb ht2
      go_wp2_with (go_at_call 15; refine q3.mono ?_; rintro e w3 ⟨rfl, b3⟩; clear q3)
      go_meet
      case rel => exact hx2.step b3
    · rw [show decide ((evP t.data.toList).2 = 0) = false from decide_eq_false h0]
      clear h0
      go_wp2_with fail
      go_meet
      case rel => exact hx2
  case rest =>
  clear hx2 HX
  generalize wc = w3 at *
  have hx3 : Bx w w3 (.slice ca p.code.length cc) p.ticks (.slice sa p.spans.length sc) (.slice wa p.wires.length wc') := hcut
  clear hcut
  go_step
  have q4 := HPr.out l (.slice la l.length lc) w3 hx3.below (HL.out.all hx3.below)
  go_upto_region 10 with (go_at_call 15; refine q4.mono ?_; rintro e w4 ⟨rfl, b4⟩; clear q4)
  have hx4 := hx3.step b4
  clear hx3 b4
  go_cut [12, 15, 79] from 73 to 78 (fun _ s15 sb wx => s15 = .string ⟨(evTx l).toArray⟩ ∧ sb = .bool (decide (evchk l = 0)) ∧ wx = w4)
  case first =>
    by_cases h0 : evchk l = 0
    · rw [h0, show wErr 0 = .nilIface from rfl]
      have HX0 : Hid (decide (evchk l = 0) = true) := decide_eq_true h0
      clear h0
      go_wp2_with fail
      go_meet
      case rel => exact ⟨rfl, by rw [HX0.out], rfl⟩
    · rw [wErr_not h0]
      have HX0 : Hid (decide (evchk l = 0) = false) := decide_eq_false h0
      clear h0
      go_wp2_with fail
      go_meet
      case rel => exact ⟨rfl, by rw [HX0.out], rfl⟩
  case rest =>
  obtain ⟨rfl, rfl, hwc⟩ := hcut
  rw [hwc]
  clear hwc wc
  go_step
  go_cut [15, 16, 17, 18, 19, 20, 21, 22, 23, 24] from 79 to 139 (fun _ _ _ _ _ _ _ _ _ _ wx => Bx w wx (.slice ca p.code.length cc) p.ticks (.slice sa p.spans.length sc) (.slice wa p.wires.length wc'))
  case first =>
    by_cases h0 : evchk l = 0
    · have hl2 := (evchk_zero.1 h0).1
      have HAll : Hid (∀ e ∈ l, evBad e = 0) := (evchk_zero.1 h0).2
      have hsz := evB_len h0
      have htx : evTx l = evB l := by unfold evTx; rw [if_pos h0]
      have q5 := HPa.out ⟨(evTx l).toArray⟩ w4 hx4.below (by rw [ba_size, htx]; omega)
      rw [show (⟨(evTx l).toArray⟩ : ByteArray).data.toList = evTx l by simp, htx, ev_read h0, show wErr 0 = .nilIface from rfl, ← htx] at q5
      have HO2 : Hid (∀ r W, -1 ≤ r ∧ r ≤ 4 → Below w.heap.size w W → Calls Tryz.prog 18 #[.slice la l.length lc, .int .i64 r] W fun e w' => ∃ ua uc, e = .returned (.tuple #[.slice ua (ofR l r).length uc, .nilIface]) ∧ Below W.heap.size W w') := HO.out h0
      have HC2 := HC.out h0
      have HC3 : Hid (∀ W, Below w.heap.size w W → Calls Tryz.prog 16 #[.slice la l.length lc] W fun e w' => ∃ ug uo uc, e = .returned (.tuple #[.slice (some ⟨ug, uo, none⟩) 6 uc, .nilIface]) ∧ ug < w'.heap.size ∧ Hid (∀ k : Nat, k < 6 → w'.cell? ⟨ug, uo + k, none⟩ = some (.int .i64 (cntW l (k : Int) : Int))) ∧ Below W.heap.size W w') := HC2
      have HSE : Hid (∀ ya yc W, Below w.heap.size w W → Wrs W (.slice ya l.length yc) l → Calls Tryz.prog 12 #[.slice ya l.length yc, .slice la l.length lc] W fun e w' => e = .returned (.bool true) ∧ Below W.heap.size W w') := fun ya yc W hb hy => sameev_any _ _ l W hy (HL.out.all hb) (by omega)
      rw [show decide (evchk l = 0) = true from decide_eq_true h0]
      clear h0 htx hsz HC2
      obtain ⟨tx, htx⟩ : ∃ x, evTx l = x := ⟨_, rfl⟩
      rw [htx] at q5 ⊢
      clear htx
      go_upto_region 16 with (first
        | (go_at_call 20; refine q5.mono ?_; rintro e w5 ⟨ya, yc, rfl, HY, b5⟩; clear q5; have hx5 := hx4.step b5; have q6 := HSE.out ya yc w5 hx5.below HY.out; clear HSE)
        | (go_at_call 12; refine q6.mono ?_; rintro e w6 ⟨rfl, b6⟩; clear q6; have hx6 := hx5.step b6))
      go_loopw [18, 19] (fun s18 s19 wr => ∃ k : Nat, k ≤ 6 ∧ s19 = .int .i64 ((k : Int) - 1) ∧ s18 = .int .i64 (sumR l k : Int) ∧ Bx w wr (.slice ca p.code.length cc) p.ticks (.slice sa p.spans.length sc) (.slice wa p.wires.length wc')) (fun _ s19 _ => (6 - ((intOf s19) + 1)).toNat)
      case atStart => exact ⟨0, Nat.zero_le _, rfl, rfl, hx6⟩
      case round =>
        clear hx4 hx5 hx6 b5 b6
        obtain ⟨k, hk, rfl, rfl, hx⟩ := hrel
        have hsr := sumR_le l k
        have hsr2 : sumR l k ≤ 12000 := Nat.le_trans hsr (Nat.le_trans (Nat.mul_le_mul hk hl2) (by decide))
        clear hsr
        by_cases hk6 : k < 6
        · have d1 : (k : Int) - 1 ≤ 4 := by omega
          have q7 := HO2.out ((k : Int) - 1) wr (by omega) hx.below
          have hof : (ofR l ((k : Int) - 1)).length ≤ l.length := List.length_filter_le _ _
          have HS : Hid (sumR l (k + 1) = sumR l k + (ofR l ((k : Int) - 1)).length) := rfl
          generalize (ofR l ((k : Int) - 1)).length = m at q7 hof HS
          generalize sumR l k = S at hsr2 HS ⊢
          go_wp2_with (go_at_call 18; refine q7.mono ?_; rintro e w7 ⟨va, vd, rfl, b7⟩; clear q7)
          go_roundw
          case rel => exact ⟨k + 1, by omega, by go_num, by rw [HS.out]; go_num, hx.step b7⟩
          case measure => simp [intOf]; omega
        · have hke : k = 6 := by omega
          subst hke
          have d1 : decide (((6 : Nat) : Int) - 1 ≤ 4) = false := by decide
          have q7 := HC3.out wr hx.below
          have hs6 : sumR l 6 = l.length := sumR_all HAll.out
          rw [hs6]
          clear hsr2 hs6
          rename World => wp
          go_upto_region 25 with (go_at_call 16; refine q7.mono ?_; rintro e w7 ⟨ug2, uo2, uc2, rfl, hug, HUC, b7⟩; clear q7)
          have hx7 := hx.step b7
          go_loopw [23, 24] (fun s23 s24 wr => ∃ k : Nat, k ≤ 6 ∧ s24 = .int .i64 k ∧ s23 = .int .i64 (sumC l k : Int) ∧ wr = w7) (fun _ s24 _ => 6 - (intOf s24).toNat)
          case atStart => exact ⟨0, Nat.zero_le _, rfl, rfl, rfl⟩
          case round =>
            obtain ⟨k, hk, rfl, rfl, hwr⟩ := hrel
            subst hwr
            have hsc := sumC_le l k
            have hsc2 : sumC l k ≤ 12000 := Nat.le_trans hsc (Nat.le_trans (Nat.mul_le_mul hk hl2) (by decide))
            clear hsc
            by_cases hk6 : k < 6
            · have d2 : (k : Int) < 6 := by omega
              have c0 := HUC.out k hk6
              have hcw : cntW l (k : Int) ≤ l.length := List.length_filter_le _ _
              have HS : Hid (sumC l (k + 1) = sumC l k + cntW l (k : Int)) := rfl
              generalize cntW l (k : Int) = m at c0 hcw HS
              generalize sumC l k = S at hsc2 HS ⊢
              go_wp2
              go_roundw
              case rel => exact ⟨k + 1, by omega, by go_num, by rw [HS.out]; go_num, by first | rfl | trivial⟩
              case measure => simp [intOf]; omega
            · have hke : k = 6 := by omega
              subst hke
              have d2 : decide (((6 : Nat) : Int) < 6) = false := by decide
              have hs6 : sumC l 6 = l.length := sumC_all HAll.out
              rw [hs6]
              clear hsc2 hs6
              go_wp2
              go_meet
              case rel => exact hx7
    · rw [show decide (evchk l = 0) = false from decide_eq_false h0]
      clear h0
      go_wp2_with fail
      go_meet
      case rel => exact hx4
  case rest =>
  clear hx4 HO HC HPr HPa HL
  generalize wc = w5 at *
  have hx5 : Bx w w5 (.slice ca p.code.length cc) p.ticks (.slice sa p.spans.length sc) (.slice wa p.wires.length wc') := hcut
  clear hcut
  go_step
  go_upto_region 30 with fail
  by_cases hout : n < 0 ∨ 150 < n
  · have hcase : decide (n < 0) = true ∨ (decide (n < 0) = false ∧ decide (150 < n) = true) := by
      simp only [decide_eq_true_eq, decide_eq_false_iff_not]
      omega
    clear hout HR
    rcases hcase with d1 | ⟨d1, d2⟩
    · go_wp2
      go_ret
      exact ⟨rfl, hx5.below⟩
    · go_wp2
      go_ret
      exact ⟨rfl, hx5.below⟩
  · have d1 : decide (n < 0) = false := decide_eq_false (by omega)
    have d2 : decide (150 < n) = false := decide_eq_false (by omega)
    obtain ⟨m, rfl⟩ : ∃ m : Nat, n = m := ⟨n.toNat, by omega⟩
    have hm : m ≤ 150 := by omega
    have k0 := hx5.c0
    have k1 := hx5.c1
    have k2 := hx5.c2
    have k3 := hx5.c3
    have HKc : Hid (∀ W, Bx w W (.slice ca p.code.length cc) p.ticks (.slice sa p.spans.length sc) (.slice wa p.wires.length wc') → W.cell? ⟨w.heap.size, 0, none⟩ = some (.slice ca p.code.length cc) ∧ W.cell? ⟨w.heap.size, 1, none⟩ = some (.int .i64 p.ticks) ∧ W.cell? ⟨w.heap.size, 2, none⟩ = some (.slice sa p.spans.length sc) ∧ W.cell? ⟨w.heap.size, 3, none⟩ = some (.slice wa p.wires.length wc')) := fun W hx => ⟨hx.c0, hx.c1, hx.c2, hx.c3⟩
    clear hout
    by_cases hpc : plchk p = 0
    · have hT : ∀ j : Nat, j ≤ 2000 → trE p (j : Int) = 0 ∧ trV p (j : Int) = runL p j := fun j hj => by
        have e : trE p (j : Int) = 0 := by unfold trE; rw [if_pos hpc, if_neg (by omega)]
        exact ⟨e, by unfold trV; rw [if_pos e, Int.toNat_natCast]⟩
      have HRj : Hid (∀ (j : Nat) W, j ≤ 2000 → Below w.heap.size w W → Calls Tryz.prog 10 #[.agg #[.slice ca p.code.length cc, .int .i64 p.ticks, .slice sa p.spans.length sc, .slice wa p.wires.length wc'], .int .i64 (j : Int)] W fun e w' => ∃ ua uc, e = .returned (.tuple #[.slice ua j uc, .nilIface]) ∧ Hid (Wrs w' (.slice ua j uc) (runL p j)) ∧ Below W.heap.size W w') := fun j W hj hb => by
        have q := HR.out (j : Int) W hb
        rw [(hT j hj).1, (hT j hj).2, runL_len] at q
        exact q
      have HRb : Hid (∀ W, Below w.heap.size w W → Calls Tryz.prog 10 #[.agg #[.slice ca p.code.length cc, .int .i64 p.ticks, .slice sa p.spans.length sc, .slice wa p.wires.length wc'], .int .i64 ((m : Int) + 20)] W fun e w' => ∃ ug uo uc, e = .returned (.tuple #[.slice (some ⟨ug, uo, none⟩) (m + 20) uc, .nilIface]) ∧ m + 20 ≤ uc ∧ Hid (Wrs w' (.slice (some ⟨ug, uo, none⟩) m uc) (runL p m)) ∧ Below W.heap.size W w') := fun W hb => by
        refine (HRj.out (m + 20) W (by omega) hb).mono ?_
        rintro e w' ⟨ua, uc, rfl, hu, hb⟩
        have hu2 := hu.out
        rcases hu.out with ⟨h0, _⟩ | ⟨b, off, cap, e1, h1, h2, h3⟩
        · have := runL_len p (m + 20)
          rw [h0] at this
          simp at this
        · injection e1 with e2 e3 e4
          subst e2
          subst e4
          rw [runL_len] at h1
          have hw := wrs_take hu2 (runL_len p (m + 20)) (by omega) (show m ≤ m + 20 by omega)
          rw [runL_take p (by omega)] at hw
          exact ⟨b, off, uc, rfl, h1, hw, hb⟩
      have HSE : Hid (∀ ua uc ug uo uk W, Wrs W (.slice ua m uc) (runL p m) → Wrs W (.slice (some ⟨ug, uo, none⟩) m uk) (runL p m) → Calls Tryz.prog 12 #[.slice ua m uc, .slice (some ⟨ug, uo, none⟩) m uk] W fun e w' => e = .returned (.bool true) ∧ Below W.heap.size W w') := fun ua uc ug uo uk W h1 h2 => sameev_any _ _ _ W h1 h2 (by rw [runL_len]; omega)
      have q6 := HRj.out m w5 (by omega) hx5.below
      clear HR hT hpc HRj
      go_wp2_with (first
        | (go_at_call 10; refine q6.mono ?_; rintro e w6 ⟨ua, ud, rfl, HA, b6⟩; clear q6; have hx6 := hx5.step b6; obtain ⟨k0', k1', k2', k3'⟩ := HKc.out w6 hx6; have q7 := HRb.out w6 hx6.below; clear HRb)
        | (go_at_call 10; refine q7.mono ?_; rintro e w7 ⟨ug3, uo3, ue, rfl, hcap, HB3, b7⟩; clear q7; have hx7 := hx6.step b7; have q8 := HSE.out ua ud ug3 uo3 ue w7 (HA.out.all b7) HB3.out; clear HSE)
        | (go_at_call 12; refine q8.mono ?_; rintro e w8 ⟨rfl, b8⟩; clear q8; have hx8 := hx7.step b8))
      go_ret
      exact ⟨by simp, hx8.below⟩
    · have hT : ∀ j : Int, trE p j = plchk p := fun j => by unfold trE; rw [if_neg hpc]
      have HRj : Hid (∀ (j : Int) W, Below w.heap.size w W → Calls Tryz.prog 10 #[.agg #[.slice ca p.code.length cc, .int .i64 p.ticks, .slice sa p.spans.length sc, .slice wa p.wires.length wc'], .int .i64 j] W fun e w' => ∃ ua ul uc, e = .returned (.tuple #[.slice ua ul uc, .iface 91 (.int .i64 (plchk p))]) ∧ Below W.heap.size W w') := fun j W hb => by
        refine (HR.out j W hb).mono ?_
        rintro e w' ⟨ua, uc, rfl, _, hb⟩
        exact ⟨ua, _, uc, by rw [hT, wErr_not hpc], hb⟩
      have q6 := HRj.out (m : Int) w5 hx5.below
      have HRk : Hid (∀ W, Below w.heap.size w W → Calls Tryz.prog 10 #[.agg #[.slice ca p.code.length cc, .int .i64 p.ticks, .slice sa p.spans.length sc, .slice wa p.wires.length wc'], .int .i64 ((m : Int) + 20)] W fun e w' => ∃ ua ul uc, e = .returned (.tuple #[.slice ua ul uc, .iface 91 (.int .i64 (plchk p))]) ∧ Below W.heap.size W w') := fun W hb => HRj.out ((m : Int) + 20) W hb
      generalize plchk p = ep at q6 HRk
      clear HR hT hpc HRj
      go_wp2_with (first
        | (go_at_call 10; refine q6.mono ?_; rintro e w6 ⟨ua, ul, ud, rfl, b6⟩; clear q6; have hx6 := hx5.step b6; obtain ⟨k0', k1', k2', k3'⟩ := HKc.out w6 hx6; have q7 := HRk.out w6 hx6.below; clear HRk)
        | (go_at_call 10; refine q7.mono ?_; rintro e w7 ⟨ub, um, ue, rfl, b7⟩; clear q7; have hx7 := hx6.step b7))
      go_ret
      exact ⟨rfl, hx7.below⟩
end Go.Proofs.YtfconbblnmbnpahGreatDoor

/-
  The law TraceTells, of what package trace promises.
-/
import Derived.Test.YtfconbblnmbnpahGreatDoorJb2
import Derived.Test.YtfconbblnmbnpahGreatDoorJb3
import Derived.Test.YtfconbblnmbnpahGreatDoorJb1
import Derived.Test.YtfconbblnmbnpahGreatDoorREvents
import Derived.Test.YtfconbblnmbnpahGreatDoorRReadEv
import Derived.Test.YtfconbblnmbnpahGreatDoorJb12
import Derived.Test.YtfconbblnmbnpahGreatDoorKRefNew
import Derived.Deep.CutRange
import Derived.Deep.CutBlock
import Derived.RangeFuncNested
namespace Go.Proofs.YtfconbblnmbnpahGreatDoor
open Go.RowKit

def nB (n : Int) : Bool := decide (n < 0) || decide (2000 < n)
def sB (n : Int) : Bool := decide (200 < n) && decide (n ≤ 2000)
def nAdj (n : Int) : Int := if sB n = true then n % 200 else n
def rB1 (r : Int) : Bool := decide (r < -1) || decide (4 < r)
theorem trE_b (p : PD) (n : Int) : trE p n = if (plchk p == 0 && nB n) = true then 1 else plchk p := by
  unfold trE nB
  by_cases h : plchk p = 0
  · rw [if_pos h]
    by_cases h2 : n < 0 ∨ 2000 < n
    · rw [if_pos h2, if_pos (by simp [h]; omega)]
    · rw [if_neg h2, if_neg (by simp [h]; omega), h]
  · rw [if_neg h, if_neg (by simp [h])]
theorem ofE_b (l : List W4) (r : Int) : ofE l r = if (evchk l == 0 && rB1 r) = true then 1 else evchk l := by
  unfold ofE rB1
  by_cases h : evchk l = 0
  · rw [if_pos h]
    by_cases h2 : r < -1 ∨ 4 < r
    · rw [if_pos h2, if_pos (by simp [h]; omega)]
    · rw [if_neg h2, if_neg (by simp [h]; omega), h]
  · rw [if_neg h, if_neg (by simp [h])]
theorem cntW_snoc (l : List W4) (e : W4) (k : Int) : cntW (l ++ [e]) k = cntW l k + if e.2.2.2 = k then 1 else 0 := by
  unfold cntW
  rw [List.filter_append, List.length_append]
  congr 1
  by_cases h : e.2.2.2 = k <;> simp [h]
theorem ofR_snoc (l : List W4) (e : W4) (r : Int) : ofR (l ++ [e]) r = if e.2.1 = r then ofR l r ++ [e] else ofR l r := by
  unfold ofR
  rw [List.filter_append]
  by_cases h : e.2.1 = r <;> simp [h]
theorem take_ev {l : List W4} {i : Nat} {e : W4} (h : l[i]? = some e) : l.take (i + 1) = l.take i ++ [e] := take_at h
theorem counts_take (l : List W4) : ∀ k, k < 6 → (countsL l).take (k + 1) = (countsL l).take k ++ [(cntW l (k : Int) : Int)] := fun k hk => by
  match k, hk with
  | 0, _ => rfl
  | 1, _ => rfl
  | 2, _ => rfl
  | 3, _ => rfl
  | 4, _ => rfl
  | 5, _ => rfl
theorem trV_len (p : PD) (n : Int) : (trV p n).length ≤ 1000000 := by
  unfold trV
  split
  · rename_i h
    have := trE_zero h
    rw [runL_len]
    omega
  · exact Nat.zero_le _
theorem countsV_len (l : List W4) : (countsV l).length ≤ 1000000 := by
  unfold countsV
  split
  · show 6 ≤ 1000000
    omega
  · exact Nat.zero_le _
theorem own1_form {w : World} {base n : Nat} {v : Value} {cs : List Value} (h : w.ownsRow base 3 1 v n cs) : ∃ vg vk, v = .slice vg n vk := by
  rcases row_form h with ⟨rfl, h0⟩ | ⟨g, cap, rfl⟩
  · subst h0
    exact ⟨_, _, rfl⟩
  · exact ⟨_, _, rfl⟩
theorem ofE_zero {l : List W4} {r : Int} (h : ofE l r = 0) : evchk l = 0 := by
  unfold ofE at h
  split at h
  · assumption
  · exact h
theorem ofV_len (l : List W4) (r : Int) : (ofV l r).length ≤ 1000000 := by
  unfold ofV
  split
  · rename_i h
    have h1 : evchk l = 0 := by
      unfold ofE at h
      split at h
      · assumption
      · exact h
    have h2 := (evchk_zero.1 h1).1
    have h3 : (ofR l r).length ≤ l.length := by unfold ofR; exact List.length_filter_le _ _
    omega
  · exact Nat.zero_le _
theorem evEnd_snoc (ls : List (List UInt8)) (u : List UInt8) : endL (ls ++ [u]) = endL ls ++ (u ++ [10]) := by simp [endL]
set_option maxRecDepth 100000 in
set_option maxHeartbeats 32000000 in
theorem trtells_of {G : World → Prop} (hall : ∀ w w', G w → Below w.heap.size w w' → G w') (hR : TrcRun G) (hO : TrcOf G) (hC : TrcCounts G) (hP : TrcPrint G) (hQ : TrcParse G)
    (hE : ∀ (e : Int) (W : World), G W → Calls Tryz.prog 11 #[wErr e, .int .i64 e] W fun r w' => r = .returned (.bool true) ∧ Below W.heap.size W w')
    (hRP : ∀ (p : PD) (vc vs vw : Value) (W : World), Pln W vc vs vw p → Calls Tryz.prog 7 #[plV vc p.ticks vs vw] W fun e w' => e = .returned (.int .i64 (plchk p)) ∧ Below W.heap.size W w')
    (p : PD) (vc vs vw : Value) (n : Int) (l : List W4) (v : Value) (r : Int) (t : ByteArray) (w : World) (hG : G w) (hPl : Pln w vc vs vw p) (hl : Wrs w v l) (ht : t.size ≤ 1099511627776) :
    Calls Tryz.prog 3 #[plV vc p.ticks vs vw, .int .i64 n, v, .int .i64 r, .string t] w fun e w' => e = .returned (.bool true) ∧ Below w.heap.size w w' := by
  obtain ⟨ca, cc, rfl⟩ := hPl.code.form
  obtain ⟨sa, sc, rfl⟩ := hPl.spans.form
  obtain ⟨wa, wc', rfl⟩ := hPl.wires.form
  have hx0 := Bx.first w (.slice ca p.code.length cc) p.ticks (.slice sa p.spans.length sc) (.slice wa p.wires.length wc')
  have HRP : Hid (∀ W, Below w.heap.size w W → Calls Tryz.prog 7 #[.agg #[.slice ca p.code.length cc, .int .i64 p.ticks, .slice sa p.spans.length sc, .slice wa p.wires.length wc']] W fun e w' => e = .returned (.int .i64 (plchk p)) ∧ Below W.heap.size W w') := fun W hb => hRP p _ _ _ W (hPl.all hb)
  have HNK : Hid (plchk p = 0 → ∀ W, Below w.heap.size w W → Calls Tryz.prog 8 #[.agg #[.slice ca p.code.length cc, .int .i64 p.ticks, .slice sa p.spans.length sc, .slice wa p.wires.length wc']] W fun e w' => ∃ a : KW, e = .returned (.pointer (some ⟨a.kb, 0, none⟩)) ∧ Hid (REv W w' p (.slice ca p.code.length cc) (.slice sa p.spans.length sc) (.slice wa p.wires.length wc') a w'.heap.size 0 (.slice none 0 0)) ∧ Hid (Pln W (.slice ca p.code.length cc) (.slice sa p.spans.length sc) (.slice wa p.wires.length wc') p) ∧ Below W.heap.size W w') := fun h W hb => by
    refine (newkernel_any p _ _ _ W h (hPl.all hb)).mono ?_
    rintro e w' ⟨a, rfl, _, hRk, hb2⟩
    exact ⟨a, rfl, REv.first hRk hb2, hPl.all hb, hb2⟩
  have HR : Hid (∀ m W, Below w.heap.size w W → Calls Tryz.prog 10 #[.agg #[.slice ca p.code.length cc, .int .i64 p.ticks, .slice sa p.spans.length sc, .slice wa p.wires.length wc'], .int .i64 m] W fun e w' => ∃ ua uc, e = .returned (.tuple #[.slice ua (trV p m).length uc, wErr (trE p m)]) ∧ Hid (Wrs w' (.slice ua (trV p m).length uc) (trV p m)) ∧ Below W.heap.size W w') := fun m W hb => by
    refine (hR p _ _ _ m W (hall _ _ hG hb) (hPl.all hb)).mono ?_
    rintro e w' ⟨u, rfl, hu, hb⟩
    obtain ⟨ua, uc, rfl⟩ := hu.form
    exact ⟨ua, uc, rfl, hu, hb⟩
  have HEr : Hid (∀ e W, Below w.heap.size w W → Calls Tryz.prog 11 #[wErr e, .int .i64 e] W fun r w' => r = .returned (.bool true) ∧ Below W.heap.size W w') := fun e W hb => hE e W (hall _ _ hG hb)
  have HSE : Hid (∀ (es : List W4) va vb W, es.length ≤ 1000000 → Wrs W va es → Wrs W vb es → Calls Tryz.prog 12 #[va, vb] W fun e w' => e = .returned (.bool true) ∧ Below W.heap.size W w') := fun es va vb W h1 h2 h3 => sameev_any va vb es W h2 h3 h1
  have HV : Hid (∀ W, Below w.heap.size w W → Calls Tryz.prog 13 #[v] W fun e w' => e = .returned (.int .i64 (evchk l)) ∧ Below W.heap.size W w') := fun W hb => revents_any l v W (hl.all hb)
  have HPr : Hid (∀ W, Below w.heap.size w W → Calls Tryz.prog 15 #[v] W fun e w' => e = .returned (.tuple #[.string ⟨(evTx l).toArray⟩, wErr (evchk l)]) ∧ Below W.heap.size W w') := fun W hb => hP l v W (hall _ _ hG hb) (hl.all hb)
  have HCn : Hid (∀ W, Below w.heap.size w W → Calls Tryz.prog 16 #[v] W fun e w' => ∃ ua uc, e = .returned (.tuple #[.slice ua (countsV l).length uc, wErr (evchk l)]) ∧ Hid (Stp w' (.slice ua (countsV l).length uc) (countsV l)) ∧ Below W.heap.size W w') := fun W hb => by
    refine (hC l v W (hall _ _ hG hb) (hl.all hb)).mono ?_
    rintro e w' ⟨u, rfl, hu, hb⟩
    obtain ⟨ua, uc, rfl⟩ := hu.form
    exact ⟨ua, uc, rfl, hu, hb⟩
  have HOf : Hid (∀ W, Below w.heap.size w W → Calls Tryz.prog 18 #[v, .int .i64 r] W fun e w' => ∃ ua uc, e = .returned (.tuple #[.slice ua (ofV l r).length uc, wErr (ofE l r)]) ∧ Hid (Wrs w' (.slice ua (ofV l r).length uc) (ofV l r)) ∧ Below W.heap.size W w') := fun W hb => by
    refine (hO l v r W (hall _ _ hG hb) (hl.all hb)).mono ?_
    rintro e w' ⟨u, rfl, hu, hb⟩
    obtain ⟨ua, uc, rfl⟩ := hu.form
    exact ⟨ua, uc, rfl, hu, hb⟩
  have HRd : Hid (∀ W, Calls Tryz.prog 19 #[.string t] W fun e w' => ∃ ua uc, e = .returned (.tuple #[.slice ua (evP t.data.toList).1.length uc, .int .i64 (evP t.data.toList).2]) ∧ Hid (Wrs w' (.slice ua (evP t.data.toList).1.length uc) (evP t.data.toList).1) ∧ Below W.heap.size W w') := fun W => by
    refine (rreadev_any t W ht).mono ?_
    rintro e w' ⟨u, rfl, hu, hb⟩
    obtain ⟨ua, uc, rfl⟩ := hu.form
    exact ⟨ua, uc, rfl, hu, hb⟩
  have HPa : Hid (∀ W, Below w.heap.size w W → Calls Tryz.prog 20 #[.string t] W fun e w' => ∃ ua uc, e = .returned (.tuple #[.slice ua (evP t.data.toList).1.length uc, wErr (evP t.data.toList).2]) ∧ Hid (Wrs w' (.slice ua (evP t.data.toList).1.length uc) (evP t.data.toList).1) ∧ Below W.heap.size W w') := fun W hb => by
    refine (hQ t W (hall _ _ hG hb) (Nat.le_trans ht (by decide))).mono ?_
    rintro e w' ⟨u, rfl, hu, hb⟩
    obtain ⟨ua, uc, rfl⟩ := hu.form
    exact ⟨ua, uc, rfl, hu, hb⟩
  have HL : Hid (Wrs w v l) := hl
  obtain ⟨la, lc, rfl⟩ := hl.form
  have HTE : Hid (∀ m, trE p m = if (plchk p == 0 && nB m) = true then 1 else plchk p) := fun m => trE_b p m
  have HPL : Hid ((evP t.data.toList).1.length ≤ 1000000) := by
    show _ ≤ _
    unfold evP
    split
    · cases evsOf (cutB 10 t.data.toList).dropLast with
      | none => exact Nat.zero_le _
      | some es =>
        unfold evR
        simp only
        split
        · rename_i h
          have := (evchk_zero.1 h).1
          show es.length ≤ _
          omega
        · exact Nat.zero_le _
    · exact Nat.zero_le _
  unfold plV
  clear hR hO hC hP hQ hE hRP hPl hl ht
  go_enter Tryz.func3, Tryz.ntmps3
  go_upto_region 1 with fail
  generalize w.alloc (.cells #[.slice ca p.code.length cc, .int .i64 p.ticks, .slice sa p.spans.length sc, .slice wa p.wires.length wc'] 26) = w0 at hx0 ⊢
  go_cut [38] from 33 to 37 (fun sb wx => sb = .bool (sB n) ∧ wx = w0)
  case first =>
    by_cases h1 : 200 < n
    · have d1 : decide (200 < n) = true := decide_eq_true h1
      by_cases h2 : n ≤ 2000
      · have d2 : decide (n ≤ 2000) = true := decide_eq_true h2
        have HX : Hid (sB n = true) := by show (_ && _) = _; rw [d1, d2]; rfl
        clear h1 h2
        go_wp2_with fail
        go_meet
        case rel => exact ⟨by rw [HX.out], rfl⟩
      · have d2 : decide (n ≤ 2000) = false := decide_eq_false h2
        have HX : Hid (sB n = false) := by show (_ && _) = _; rw [d1, d2]; rfl
        clear h1 h2
        go_wp2_with fail
        go_meet
        case rel => exact ⟨by rw [HX.out], rfl⟩
    · have d1 : decide (200 < n) = false := decide_eq_false h1
      have HX : Hid (sB n = false) := by show (_ && _) = _; rw [d1]; rfl
      clear h1
      go_wp2_with fail
      go_meet
      case rel => exact ⟨by rw [HX.out], rfl⟩
  case rest =>
  obtain ⟨rfl, hwc⟩ := hcut
  rw [hwc]
  clear hwc wc
  go_step
  go_cut [1] from 38 to 40 (fun s1 wx => s1 = .int .i64 (nAdj n) ∧ wx = w0)
  case first =>
    cases hs : sB n with
    | true =>
      have HX : Hid (nAdj n = n % 200) := by show _ = _; unfold nAdj; rw [if_pos hs]
      have hb : 200 < n := by unfold sB at hs; simp at hs; omega
      clear hs
      go_wp2_with fail
      go_meet
      case rel => exact ⟨by rw [HX.out], rfl⟩
    | false =>
      have HX : Hid (nAdj n = n) := by show _ = _; unfold nAdj; rw [if_neg (by rw [hs]; simp)]
      clear hs
      go_wp2_with fail
      go_meet
      case rel => exact ⟨by rw [HX.out], rfl⟩
  case rest =>
  obtain ⟨rfl, hwc⟩ := hcut
  rw [hwc]
  clear hwc wc
  go_step
  generalize nAdj n = N
  have q1 := HRP.out w0 hx0.below
  obtain ⟨k0, k1, k2, k3⟩ : _ ∧ _ ∧ _ ∧ _ := ⟨hx0.c0, hx0.c1, hx0.c2, hx0.c3⟩
  have HTN := HTE.out N
  have HTEN : Hid (trE p N = if (plchk p == 0 && nB N) = true then 1 else plchk p) := HTN
  have HZN : Hid (trE p N = 0 → plchk p = 0 ∧ 0 ≤ N ∧ N ≤ 2000) := trE_zero
  clear HTN HTE HRP
  go_upto_region 4 with (go_at_call 7; refine q1.mono ?_; rintro e w1 ⟨rfl, b1⟩; clear q1)
  have hx1 := hx0.step b1
  clear hx0 b1 k0 k1 k2 k3
  obtain ⟨PC, hPC⟩ : ∃ x, plchk p = x := ⟨_, rfl⟩
  rw [hPC] at HTEN ⊢
  have HPC : Hid (plchk p = PC) := hPC
  clear hPC
  obtain ⟨TE, hTE⟩ : ∃ x, trE p N = x := ⟨_, rfl⟩
  rw [hTE] at HTEN HZN
  have HTE2 : Hid (trE p N = TE) := hTE
  clear hTE
  go_cut [52] from 43 to 51 (fun sb wx => sb = .bool (PC == 0 && nB N) ∧ wx = w1)
  case first =>
    by_cases h0 : PC = 0
    · subst h0
      by_cases h1 : N < 0
      · have d0 : decide (N < 0) = true := decide_eq_true h1
        have HX : Hid (((0 : Int) == 0 && nB N) = true) := by
          show (_ && _) = true
          unfold nB
          simp [d0]
        clear h1
        go_wp2_with fail
        go_meet
        case rel => exact ⟨by rw [HX.out], rfl⟩
      · by_cases h2 : 2000 < N
        · have d0 : decide (N < 0) = false := decide_eq_false (by omega)
          have d1 : decide (2000 < N) = true := decide_eq_true h2
          have HX : Hid (((0 : Int) == 0 && nB N) = true) := by
            show (_ && _) = true
            unfold nB
            simp [d0, d1]
          clear h2
          go_wp2_with fail
          go_meet
          case rel => exact ⟨by rw [HX.out], rfl⟩
        · have d0 : decide (N < 0) = false := decide_eq_false (by omega)
          have d1 : decide (2000 < N) = false := decide_eq_false (by omega)
          have HX : Hid (((0 : Int) == 0 && nB N) = false) := by
            show (_ && _) = false
            unfold nB
            simp only [d0, d1]
            rfl
          go_wp2_with fail
          go_meet
          case rel => exact ⟨by rw [HX.out], rfl⟩
    · have d0 : (PC == 0) = false := by simpa using h0
      have HX : Hid ((PC == 0 && nB N) = false) := by
        show (_ && _) = false
        rw [d0]
        rfl
      clear h0
      go_wp2_with fail
      go_meet
      case rel => exact ⟨by rw [HX.out], rfl⟩
  case rest =>
  obtain ⟨rfl, hwc⟩ := hcut
  rw [hwc]
  clear hwc wc
  go_step
  go_cut [11] from 52 to 52 (fun se wx => se = .int .i64 TE ∧ wx = w1)
  case first =>
    cases hb : (PC == 0 && nB N) with
    | true =>
      have HY : Hid (TE = 1) := by
        show TE = 1
        rw [HTEN.out, hb]
        rfl
      clear hb
      go_wp2_with fail
      go_meet
      case rel => exact ⟨by rw [HY.out], rfl⟩
    | false =>
      have HY : Hid (TE = PC) := by
        show TE = PC
        rw [HTEN.out, hb]
        rfl
      clear hb
      go_wp2_with fail
      go_meet
      case rel => exact ⟨by rw [HY.out], rfl⟩
  case rest =>
  obtain ⟨rfl, hwc⟩ := hcut
  rw [hwc]
  clear hwc wc
  go_step
  go_upto_region 7 with fail
  go_cut [54] from 53 to 53 (fun sb wx => sb = .bool (decide (TE = 0)) ∧ wx = w1)
  case first =>
    by_cases h0 : TE = 0
    · subst h0
      go_wp2_with fail
      go_meet
      case rel => exact ⟨by simp, rfl⟩
    · have d0 : (TE == 0) = false := by simpa using h0
      have HX : Hid (decide (TE = 0) = false) := decide_eq_false h0
      clear h0
      go_wp2_with fail
      go_meet
      case rel => exact ⟨by rw [HX.out], rfl⟩
  case rest =>
  obtain ⟨rfl, hwc⟩ := hcut
  rw [hwc]
  clear hwc wc
  go_step
  go_cut [12, 13, 14, 15] from 54 to 67 (fun s12 _ _ _ wx => ∃ ua uc, s12 = .slice ua (trV p N).length uc ∧ Hid (Wrs wx (.slice ua (trV p N).length uc) (trV p N)) ∧ Bx w wx (.slice ca p.code.length cc) p.ticks (.slice sa p.spans.length sc) (.slice wa p.wires.length wc'))
  case first =>
    by_cases h0 : TE = 0
    · obtain ⟨hp, hN0, hN1⟩ := HZN.out h0
      obtain ⟨m, rfl⟩ : ∃ m : Nat, N = m := ⟨N.toNat, by omega⟩
      have hm : m ≤ 2000 := by omega
      have htv : trV p (m : Int) = runL p m := by unfold trV; rw [if_pos (HTE2.out.trans h0), Int.toNat_natCast]
      have HTV : Hid (trV p (m : Int) = runL p m ∧ (trV p (m : Int)).length = m) := ⟨htv, by rw [htv, runL_len]⟩
      have q2 := HNK.out hp w1 hx1.below
      have HPp : Hid (plchk p = 0) := hp
      obtain ⟨k0, k1, k2, k3⟩ : _ ∧ _ ∧ _ ∧ _ := ⟨hx1.c0, hx1.c1, hx1.c2, hx1.c3⟩
      obtain ⟨ii, hi, hz0, hz1, hz2⟩ := info_parts infoEv
      rw [show decide (TE = 0) = true from decide_eq_true h0]
      clear h0 htv hp hN0 hN1
      go_upto_region 10 with (go_at_call 8; refine q2.mono ?_; rintro e w2 ⟨a, rfl, HRv, HPl, b2⟩; clear q2)
      clear k0 k1 k2 k3
      go_loopw [12, 14] (fun s12 s14 wr => ∃ (i : Nat) (us : List Value), i ≤ m ∧ s14 = .int .i64 i ∧ Hid (REv w1 wr p (.slice ca p.code.length cc) (.slice sa p.spans.length sc) (.slice wa p.wires.length wc') { a with us := us } w2.heap.size i s12)) (fun _ s14 _ => m - (intOf s14).toNat)
      case atStart => exact ⟨0, a.us, Nat.zero_le _, rfl, HRv⟩
      case round =>
        clear HRv b2
        obtain ⟨i, us, him, rfl, HRv⟩ := hrel
        obtain ⟨vg, vk, hvf⟩ := own4_form HRv.out.own
        subst hvf
        by_cases hil : i < m
        · have hii : (i : Int) < (m : Int) := by omega
          have q3 := rev_tick (a := { a with us := us }) HPp.out HPl.out (show i < 1000000 by omega) HRv.out
          dsimp only at q3
          have hB1 := HRv.out.B1
          obtain ⟨⟨x0, x1, x2, x3⟩, hev⟩ : ∃ x, evK p (kT p i) = x := ⟨_, rfl⟩
          have HEV : Hid (evK p (kT p i) = (x0, x1, x2, x3)) := hev
          rw [hev] at q3
          clear hev HRv
          go_upto_region 13 with (go_at_call 9; refine q3.mono ?_; rintro e w3 ⟨rfl, us', hR3, own3, ap3, bl3, sz3⟩; clear q3)
          have HR3 : Hid (RK w3 w1.heap.size p (.slice ca p.code.length cc) (.slice sa p.spans.length sc) (.slice wa p.wires.length wc') (kT p (i + 1)) { a with us := us' }) := hR3
          have HAp : Hid (∀ g, (Value.slice vg i vk).ownBlock = some g → g ∉ KF { a with us := us' }) := ap3
          have hb4 : Below w3.heap.size w3 (w3.alloc (.cells #[.int .i64 x0, .int .i64 x1, .int .i64 x2, .int .i64 x3] 32)) := (Below.refl _ _).alloc (Nat.le_refl _) _
          clear hR3 ap3
          go_wp2_with (at_builtin; refine wpList_append_at _ rfl _ _ 27 rfl w2.heap.size 32 ii _ 4 32 Tryz.underlying27 hi hz0 hz1 hz2 rfl (by decide) _ _ _ rfl ((own3.alloc _).alloc _) ⟨w3.heap.size + 1, 0, none⟩ 1 1 [.int .i64 x0, .int .i64 x1, .int .i64 x2, .int .i64 x3] rfl rfl ?c1A ?c2A ?c3A ?c4A ?c5A ?_)
          case c1A => exact wr_new (by simp) _ _ _ _ _
          case c2A => exact four_one _ _ _ _
          case c3A => unfold maxLen; omega
          case c4A => omega
          case c5A => simp; omega
          intro v1 w8 own8 hg8 hnw8
          have HN8 : Hid (REv w1 w8 p (.slice ca p.code.length cc) (.slice sa p.spans.length sc) (.slice wa p.wires.length wc') { a with us := us' } w2.heap.size (i + 1) v1) := by
            refine rev_more HR3.out own3 HAp.out bl3 hB1 sz3 (hb4.alloc (by simp) _) hg8 ?_ (fun k hk => (hnw8 k hk).imp id (fun h => by simpa using h))
            rw [HEV.out]
            exact own8
          clear own8 hg8 hnw8 own3
          go_wp2
          go_roundw
          case rel => exact ⟨i + 1, us', by omega, by go_num, HN8.out⟩
          case measure => simp [intOf]; omega
        · have hie : i = m := by omega
          subst hie
          have hif : decide ((i : Int) < (i : Int)) = false := decide_eq_false (by omega)
          have hW : Wrs wr (.slice vg i vk) (runL p i) := evs_of_own (by rw [runL_len]; exact HRv.out.own)
          have HW : Hid (Wrs wr (.slice vg (trV p (i : Int)).length vk) (trV p (i : Int))) := by
            show Wrs _ _ _
            rw [HTV.out.2, HTV.out.1]
            exact hW
          clear hW
          go_wp2
          go_meet
          case rel => exact ⟨vg, vk, by rw [HTV.out.2], HW, hx1.step HRv.out.below⟩
    · have HTV : Hid (trV p N = []) := by show _ = _; unfold trV; rw [if_neg (fun e => h0 (HTE2.out.symm.trans e))]
      rw [show decide (TE = 0) = false from decide_eq_false h0]
      clear h0
      go_wp2_with fail
      go_meet
      case rel => exact ⟨none, 0, by rw [HTV.out]; rfl, by show Wrs _ _ _; rw [HTV.out]; exact Or.inl ⟨rfl, _, _, rfl⟩, hx1⟩
  case rest =>
  obtain ⟨wa2, wc2, rfl, HWn, hx2⟩ := hcut
  generalize wc = w2 at *
  clear hx1 HNK HZN
  go_step
  have HLN : Hid ((trV p N).length ≤ 1000000) := trV_len p N
  have q := HR.out N w2 hx2.below
  rw [HTE2.out] at q
  obtain ⟨k0, k1, k2, k3⟩ : _ ∧ _ ∧ _ ∧ _ := ⟨hx2.c0, hx2.c1, hx2.c2, hx2.c3⟩
  clear HR
  go_upto_region 15 with (go_at_call 10; refine q.mono ?_; rintro e w3 ⟨ua, uc, rfl, HU, b3⟩; clear q)
  have hx3 := hx2.step b3
  have HWm : Hid (Wrs w3 (.slice wa2 (trV p N).length wc2) (trV p N)) := HWn.out.all b3
  have q2 := HEr.out TE w3 hx3.below
  clear hx2 k0 k1 k2 k3 HWn b3
  go_upto_region 16 with (first
    | (go_at_call 11; refine q2.mono ?_; rintro e w4 ⟨rfl, b4⟩; clear q2; have hx4 := hx3.step b4; have q3 := HSE.out (trV p N) _ _ w4 HLN.out (HU.out.all b4) (HWm.out.all b4))
    | (go_at_call 12; refine q3.mono ?_; rintro e w5 ⟨rfl, b5⟩; clear q3; have hx5 := hx4.step b5))
  clear hx3 hx4 b4 b5 HU HWm HLN
  have q4 := HV.out w5 hx5.below
  clear HV
  go_upto_region 17 with (go_at_call 13; refine q4.mono ?_; rintro e w6 ⟨rfl, b6⟩; clear q4)
  have hx6 := hx5.step b6
  clear hx5 b6
  obtain ⟨EC, hEC⟩ : ∃ x, evchk l = x := ⟨_, rfl⟩
  have HEC : Hid (evchk l = EC) := hEC
  rw [hEC]
  clear hEC
  obtain ⟨ij, hj, hj0, hj1, hj2⟩ := info_parts infoInt
  go_upto_block 2 with fail
  go_cut [20, 21, 22, 23] from 84 to 110 (fun s20 _ _ _ wx => ∃ ga gc, s20 = .slice ga (countsV l).length gc ∧ Hid (Stp wx (.slice ga (countsV l).length gc) (countsV l)) ∧ Bx w wx (.slice ca p.code.length cc) p.ticks (.slice sa p.spans.length sc) (.slice wa p.wires.length wc'))
  case first =>
    by_cases h0 : EC = 0
    · have HCV : Hid (countsV l = countsL l) := by show _ = _; unfold countsV; rw [if_pos (HEC.out.trans h0)]
      subst h0
      have hl2 : l.length ≤ 2000 := (evchk_zero.1 HEC.out).1
      have HCN : Hid (∀ i (k : Int), cntW (l.take i) k ≤ 2000) := fun i k => by
        have h1 : cntW (l.take i) k ≤ (l.take i).length := by unfold cntW; exact List.length_filter_le _ _
        have h2 : (l.take i).length ≤ l.length := by simp; omega
        omega
      go_wp2_with fail
      go_loopw [20, 21, 22, 23] (fun s20 s21 _ _ wr => ∃ k : Nat, k ≤ 6 ∧ s21 = .int .i64 k ∧ Hid (wr.ownsRow w6.heap.size 3 1 s20 k (ints ((countsL l).take k))) ∧ Below w6.heap.size w6 wr) (fun _ s21 _ _ _ => 6 - (intOf s21).toNat)
      case atStart => exact ⟨0, Nat.zero_le _, rfl, World.ownsRow_nil _ _ _ _, Below.refl _ _⟩
      case round =>
        obtain ⟨k, hk, rfl, HOw, hB⟩ := hrel
        obtain ⟨vg, vk, hvf⟩ := own1_form HOw.out
        subst hvf
        have hsz := hB.size
        by_cases hk6 : k < 6
        · have hki : (k : Int) ≤ 5 := by omega
          go_wp2_with fail
          go_loopw [22, 23] (fun s22 s23 wy => ∃ i : Nat, i ≤ l.length ∧ s23 = .int .i64 i ∧ s22 = .int .i64 (cntW (l.take i) k : Nat) ∧ wy = wr) (fun _ s23 _ => l.length - (intOf s23).toNat)
          case atStart => exact ⟨0, Nat.zero_le _, rfl, rfl, rfl⟩
          case round =>
            obtain ⟨i, hi2, rfl, rfl, hwy⟩ := hrel
            subst hwy
            have hcn := HCN.out i k
            by_cases hil : i < l.length
            · have hii : (i : Int) < (l.length : Int) := by omega
              obtain ⟨b, off, f, t', q, d, rfl, hlt, hy, c0, c1, c2, c3⟩ := HL.out.at hil
              have hBw := (hx6.step hB).below
              replace c3 := (hBw.cell (p := ⟨b, _, none⟩) hlt).trans c3
              have HN : Hid (cntW (l.take (i + 1)) k = cntW (l.take i) k + if d = (k : Int) then 1 else 0) := by
                show _ = _
                rw [take_ev hy, cntW_snoc]
              clear hy c0 c1 c2
              by_cases hd : d = (k : Int)
              · have HN2 : Hid (cntW (l.take (i + 1)) k = cntW (l.take i) k + 1) := by show _ = _; rw [HN.out, if_pos hd]
                have dd : (d == (k : Int)) = true := by simpa using hd
                clear HN hd
                go_wp2
                go_roundw
                case rel => exact ⟨i + 1, by omega, by go_num, by rw [HN2.out]; go_num, trivial⟩
                case measure => simp [intOf]; omega
              · have HN2 : Hid (cntW (l.take (i + 1)) k = cntW (l.take i) k) := by show _ = _; rw [HN.out, if_neg hd]; rfl
                have dd : (d == (k : Int)) = false := by simpa using hd
                clear HN hd
                go_wp2
                go_roundw
                case rel => exact ⟨i + 1, by omega, by go_num, by rw [HN2.out], trivial⟩
                case measure => simp [intOf]; omega
            · obtain rfl : i = l.length := by omega
              have hii : decide ((l.length : Int) < (l.length : Int)) = false := decide_eq_false (by omega)
              have HC2 : Hid (ints ((countsL l).take (k + 1)) = ints ((countsL l).take k) ++ [.int .i64 (cntW (l.take l.length) k : Nat)]) := by show _ = _; rw [counts_take l k hk6, ints_snoc, List.take_length]
              have own := HOw.out
              obtain ⟨C, hC⟩ : ∃ C, cntW (l.take l.length) k = C := ⟨_, rfl⟩
              rw [hC] at HC2 hcn ⊢
              clear HOw hC
              go_wp2_with (at_builtin; refine wpList_append_own _ rfl _ _ 41 rfl w6.heap.size 3 ij (.int .i64 0) 1 8 Tryz.underlying41 hj hj0 hj1 hj2 rfl (by decide) _ _ _ rfl (own.alloc _) ⟨wr.heap.size, 0, none⟩ 1 1 [.int .i64 (C : Nat)] rfl rfl ?c1A ?c2A ?c3A ?c4A ?c5A ?_)
              case c1A => exact one_new_at rfl _ _
              case c2A => exact one_one _
              case c3A => unfold maxLen; omega
              case c4A => omega
              case c5A => simp; omega
              intro v1 w8 own8 hg8 _
              have HO2 : Hid (w8.ownsRow w6.heap.size 3 1 v1 (k + 1) (ints ((countsL l).take (k + 1)))) := by
                show World.ownsRow _ _ _ _ _ _ _
                rw [HC2.out]
                exact own8
              have hB2 : Below w6.heap.size w6 w8 := (hB.alloc hsz _).grown hg8 (by simp; omega) (fun j hj => (own.lt j hj).1)
              clear own8 hg8 own
              go_wp2
              go_roundw
              case rel => exact ⟨k + 1, by omega, by go_num, HO2, hB2⟩
              case measure => simp [intOf]; omega
        · obtain rfl : k = 6 := by omega
          have HW : Hid (Stp wr (.slice vg (countsV l).length vk) (countsV l)) := by
            show Stp _ _ _
            rw [HCV.out]
            exact stp_own HOw.out
          have hx7 := hx6.step hB
          clear HOw
          go_wp2
          go_meet
          case rel => exact ⟨vg, vk, by rw [HCV.out]; rfl, HW, hx7⟩
    · have HCV : Hid (countsV l = []) := by show _ = _; unfold countsV; rw [if_neg (fun e => h0 (HEC.out.symm.trans e))]
      have d0 : (EC == 0) = false := by simpa using h0
      clear h0
      go_wp2_with fail
      refine wp_loop_rounds 1 ?_
      rw [rounds_succ]
      go_wp2_with fail
      go_meet
      case rel => exact ⟨none, 0, by rw [HCV.out]; rfl, by show Stp _ _ _; rw [HCV.out]; exact Or.inl ⟨rfl, _, _, rfl⟩, hx6⟩
  case rest =>
  obtain ⟨ga, gc, rfl, HGC, hx7⟩ := hcut
  generalize wc = w7 at *
  clear hx6
  go_step
  go_upto_block 6 with fail
  go_cut [19, 24, 25] from 111 to 129 (fun s19 _ _ wx => s19 = .string ⟨(evTx l).toArray⟩ ∧ Below w7.heap.size w7 wx)
  case first =>
    by_cases h0 : EC = 0
    · subst h0
      have hl2 : l.length ≤ 2000 := (evchk_zero.1 HEC.out).1
      have HBD : Hid (∀ e ∈ l, evBad e = 0) := (evchk_zero.1 HEC.out).2
      have HTX : Hid (evTx l = endL (l.map evL)) := by show _ = _; unfold evTx; rw [if_pos HEC.out]; rfl
      have HTL : Hid (∀ k, (endL ((l.take k).map evL)).length ≤ 202000) := fun k => by
        have h1 := endL_len (ls := (l.take k).map evL) (fun u hu => by
          obtain ⟨e, he, rfl⟩ := List.mem_map.1 hu
          exact evL_len (HBD.out e (List.mem_of_mem_take he)))
        have h2 : ((l.take k).map evL).length ≤ l.length := by simp; omega
        omega
      go_wp2_with fail
      go_loopw [19, 24, 25] (fun s19 s24 _ wr => ∃ k : Nat, k ≤ l.length ∧ s24 = .int .i64 k ∧ s19 = .string ⟨(endL ((l.take k).map evL)).toArray⟩ ∧ Below w7.heap.size w7 wr) (fun _ s24 _ _ => l.length - (intOf s24).toNat)
      case atStart => exact ⟨0, Nat.zero_le _, rfl, rfl, Below.refl _ _⟩
      case round =>
        obtain ⟨k, hk, rfl, rfl, hB⟩ := hrel
        have hTl := HTL.out k
        by_cases hkl : k < l.length
        · have hki : (k : Int) < (l.length : Int) := by omega
          obtain ⟨b, off, f, t', q, d, rfl, hlt, hy, c0, c1, c2, c3⟩ := HL.out.at hkl
          have hBw := (hx7.step hB).below
          replace c0 := (hBw.cell (p := ⟨b, _, none⟩) hlt).trans c0
          replace c1 := (hBw.cell (p := ⟨b, _, none⟩) hlt).trans c1
          replace c2 := (hBw.cell (p := ⟨b, _, none⟩) hlt).trans c2
          replace c3 := (hBw.cell (p := ⟨b, _, none⟩) hlt).trans c3
          have hbd := HBD.out _ (List.mem_of_getElem? hy)
          have qt := revtext_any (f, t', q, d) wr hbd
          have hl1 := evL_len hbd
          dsimp only at qt
          have HN : Hid (endL ((l.take (k + 1)).map evL) = endL ((l.take k).map evL) ++ (evL (f, t', q, d) ++ [10])) := by
            show _ = _
            rw [take_ev hy, List.map_append, List.map_cons, List.map_nil, evEnd_snoc]
          obtain ⟨D, hD⟩ : ∃ D, D = evL (f, t', q, d) := ⟨_, rfl⟩
          rw [← hD] at qt hl1
          have HD : Hid (D = evL (f, t', q, d)) := hD
          obtain ⟨T, hT⟩ : ∃ T, T = endL ((l.take k).map evL) := ⟨_, rfl⟩
          rw [← hT] at hTl ⊢
          have HT : Hid (T = endL ((l.take k).map evL)) := hT
          clear hD hT hy hbd
          go_wp2_with (go_at_call 14; refine qt.mono ?_; rintro e wt ⟨rfl, bt⟩; clear qt; have hB2 := hB.trans (bt.mono hB.size); clear bt)
          go_roundw
          case rel =>
            refine ⟨k + 1, by omega, by go_num, ?_, hB2⟩
            rw [HN.out, ← HT.out, ← HD.out]
            exact congrArg Value.string (ba_app3 T D [10])
          case measure => simp [intOf]; omega
        · obtain rfl : k = l.length := by omega
          have hki : decide ((l.length : Int) < (l.length : Int)) = false := decide_eq_false (by omega)
          have HE : Hid (endL ((l.take l.length).map evL) = evTx l) := by show _ = _; rw [HTX.out, List.take_length]
          go_wp2
          go_meet
          case rel => exact ⟨by rw [HE.out], hB⟩
    · have HTX : Hid (evTx l = []) := by show _ = _; unfold evTx; rw [if_neg (fun e => h0 (HEC.out.symm.trans e))]
      have d0 : (EC == 0) = false := by simpa using h0
      clear h0
      go_wp2_with fail
      refine wp_loop_rounds 1 ?_
      rw [rounds_succ]
      go_wp2_with fail
      all_goals (go_meet; exact ⟨by rw [HTX.out], Below.refl _ _⟩)
  case rest =>
  obtain ⟨rfl, b8⟩ := hcut
  generalize wc = w8 at *
  have hx8 := hx7.step b8
  have HGD : Hid (Stp w8 (.slice ga (countsV l).length gc) (countsV l)) := HGC.out.every b8
  have q5 := HPr.out w8 hx8.below
  rw [HEC.out] at q5
  clear hx7 b8 HGC HPr
  obtain ⟨TX, hTX⟩ : ∃ x, (⟨(evTx l).toArray⟩ : ByteArray) = x := ⟨_, rfl⟩
  rw [hTX] at q5 ⊢
  clear hTX
  go_step
  go_upto_region 35 with (go_at_call 15; refine q5.mono ?_; rintro e w9 ⟨rfl, b9⟩; clear q5)
  have hx9 := hx8.step b9
  have HGE : Hid (Stp w9 (.slice ga (countsV l).length gc) (countsV l)) := HGD.out.every b9
  have q6 := HEr.out EC w9 hx9.below
  clear hx8 b9 HGD
  go_upto_region 36 with (go_at_call 11; refine q6.mono ?_; rintro e w10 ⟨rfl, b10⟩; clear q6)
  have hx10 := hx9.step b10
  have HGF : Hid (Stp w10 (.slice ga (countsV l).length gc) (countsV l)) := HGE.out.every b10
  have q7 := HCn.out w10 hx10.below
  rw [HEC.out] at q7
  clear hx9 b10 HGE HCn
  go_upto_region 37 with (go_at_call 16; refine q7.mono ?_; rintro e w11 ⟨va, vd, rfl, HVC, b11⟩; clear q7)
  have hx11 := hx10.step b11
  have HGG : Hid (Stp w11 (.slice ga (countsV l).length gc) (countsV l)) := HGF.out.every b11
  have q8 := HEr.out EC w11 hx11.below
  have HCL : Hid ((countsV l).length ≤ 1000000) := countsV_len l
  clear hx10 b11 HGF
  go_upto_region 38 with (first
    | (go_at_call 11; refine q8.mono ?_; rintro e w12 ⟨rfl, b12⟩; clear q8; have hx12 := hx11.step b12; have q9 := stp_ints (HVC.out.every b12) (HGG.out.every b12) HCL.out)
    | (go_at_call 17; refine q9.mono ?_; rintro e w13 ⟨rfl, b13⟩; clear q9; have hx13 := hx12.step b13))
  clear hx11 hx12 b12 b13 HVC HGG HCL
  obtain ⟨OE, hOE⟩ : ∃ x, ofE l r = x := ⟨_, rfl⟩
  have HOE2 : Hid (ofE l r = OE) := hOE
  have HOE : Hid (OE = if (EC == 0 && rB1 r) = true then 1 else EC) := by show _ = _; rw [← hOE, ofE_b, HEC.out]
  clear hOE
  go_upto_region 39 with fail
  go_cut [165] from 156 to 164 (fun sb wx => sb = .bool (EC == 0 && rB1 r) ∧ wx = w13)
  case first =>
    by_cases h0 : EC = 0
    · subst h0
      by_cases h1 : r < -1
      · have d0 : decide (r < -1) = true := decide_eq_true h1
        have HX : Hid (((0 : Int) == 0 && rB1 r) = true) := by
          show (_ && _) = true
          unfold rB1
          simp [d0]
        clear h1
        go_wp2_with fail
        go_meet
        case rel => exact ⟨by rw [HX.out], rfl⟩
      · by_cases h2 : 4 < r
        · have d0 : decide (r < -1) = false := decide_eq_false (by omega)
          have d1 : decide (4 < r) = true := decide_eq_true h2
          have HX : Hid (((0 : Int) == 0 && rB1 r) = true) := by
            show (_ && _) = true
            unfold rB1
            simp [d0, d1]
          clear h2
          go_wp2_with fail
          go_meet
          case rel => exact ⟨by rw [HX.out], rfl⟩
        · have d0 : decide (r < -1) = false := decide_eq_false (by omega)
          have d1 : decide (4 < r) = false := decide_eq_false (by omega)
          have HX : Hid (((0 : Int) == 0 && rB1 r) = false) := by
            show (_ && _) = false
            unfold rB1
            simp only [d0, d1]
            rfl
          go_wp2_with fail
          go_meet
          case rel => exact ⟨by rw [HX.out], rfl⟩
    · have d0 : (EC == 0) = false := by simpa using h0
      have HX : Hid ((EC == 0 && rB1 r) = false) := by
        show (_ && _) = false
        rw [d0]
        rfl
      clear h0
      go_wp2_with fail
      go_meet
      case rel => exact ⟨by rw [HX.out], rfl⟩
  case rest =>
  obtain ⟨rfl, hwc⟩ := hcut
  rw [hwc]
  clear hwc wc
  go_step
  go_cut [11] from 165 to 165 (fun se wx => se = .int .i64 OE ∧ wx = w13)
  case first =>
    cases hb : (EC == 0 && rB1 r) with
    | true =>
      have HY : Hid (OE = 1) := by
        show OE = 1
        rw [HOE.out, hb]
        rfl
      clear hb
      go_wp2_with fail
      go_meet
      case rel => exact ⟨by rw [HY.out], rfl⟩
    | false =>
      have HY : Hid (OE = EC) := by
        show OE = EC
        rw [HOE.out, hb]
        rfl
      clear hb
      go_wp2_with fail
      go_meet
      case rel => exact ⟨by rw [HY.out], rfl⟩
  case rest =>
  obtain ⟨rfl, hwc⟩ := hcut
  rw [hwc]
  clear hwc wc
  go_step
  go_upto_block 8 with fail
  go_cut [12, 30] from 166 to 189 (fun s12 _ wx => ∃ ha hc, s12 = .slice ha (ofV l r).length hc ∧ Hid (Wrs wx (.slice ha (ofV l r).length hc) (ofV l r)) ∧ Bx w wx (.slice ca p.code.length cc) p.ticks (.slice sa p.spans.length sc) (.slice wa p.wires.length wc'))
  case first =>
    by_cases h0 : OE = 0
    · have HOV : Hid (ofV l r = ofR l r) := by show _ = _; unfold ofV; rw [if_pos (HOE2.out.trans h0)]
      subst h0
      have hl2 : l.length ≤ 2000 := (evchk_zero.1 (ofE_zero HOE2.out)).1
      have HLT : Hid (∀ k, (ofR (l.take k) r).length ≤ 2000) := fun k => by
        have h1 : (ofR (l.take k) r).length ≤ (l.take k).length := by unfold ofR; exact List.length_filter_le _ _
        have h2 : (l.take k).length ≤ l.length := by simp; omega
        omega
      obtain ⟨ii, hi, hz0, hz1, hz2⟩ := info_parts infoEv
      go_wp2_with fail
      go_loopw [12, 30] (fun s12 s30 wr => ∃ k : Nat, k ≤ l.length ∧ s30 = .int .i64 k ∧ Hid (wr.ownsRow w13.heap.size 32 4 s12 (ofR (l.take k) r).length (wrCells (ofR (l.take k) r))) ∧ Below w13.heap.size w13 wr) (fun _ s30 _ => l.length - (intOf s30).toNat)
      case atStart => exact ⟨0, Nat.zero_le _, rfl, World.ownsRow_nil _ _ _ _, Below.refl _ _⟩
      case round =>
        obtain ⟨k, hk, rfl, HOw, hB⟩ := hrel
        obtain ⟨vg, vk, hvf⟩ := own4_form HOw.out
        subst hvf
        have hof := HLT.out k
        have hsz := hB.size
        by_cases hkl : k < l.length
        · have hki : (k : Int) < (l.length : Int) := by omega
          obtain ⟨b, off, f, t', q, d, rfl, hlt, hy, c0, c1, c2, c3⟩ := HL.out.at hkl
          have hBw := (hx13.step hB).below
          replace c0 := (hBw.cell (p := ⟨b, _, none⟩) hlt).trans c0
          replace c1 := (hBw.cell (p := ⟨b, _, none⟩) hlt).trans c1
          replace c2 := (hBw.cell (p := ⟨b, _, none⟩) hlt).trans c2
          replace c3 := (hBw.cell (p := ⟨b, _, none⟩) hlt).trans c3
          have HN : Hid (ofR (l.take (k + 1)) r = if t' = r then ofR (l.take k) r ++ [(f, t', q, d)] else ofR (l.take k) r) := by
            show _ = _
            rw [take_ev hy, ofR_snoc]
          clear hy
          by_cases hr : t' = r
          · have HN2 : Hid (ofR (l.take (k + 1)) r = ofR (l.take k) r ++ [(f, t', q, d)]) := by show _ = _; rw [HN.out, if_pos hr]
            have dr : (t' == r) = true := by simpa using hr
            have own := HOw.out
            clear HN HOw hr
            go_wp2_with (at_builtin; refine wpList_append_at _ rfl _ _ 27 rfl w13.heap.size 32 ii _ 4 32 Tryz.underlying27 hi hz0 hz1 hz2 rfl (by decide) _ _ _ rfl (own.alloc _) ⟨wr.heap.size, 0, none⟩ 1 1 [.int .i64 f, .int .i64 t', .int .i64 q, .int .i64 d] rfl rfl ?c1A ?c2A ?c3A ?c4A ?c5A ?_)
            case c1A => exact wr_new rfl _ _ _ _ _
            case c2A => exact four_one _ _ _ _
            case c3A => unfold maxLen; omega
            case c4A => omega
            case c5A => simp; omega
            intro v1 w8 own8 hg8 hnw8
            have HO2 : Hid (w8.ownsRow w13.heap.size 32 4 v1 (ofR (l.take (k + 1)) r).length (wrCells (ofR (l.take (k + 1)) r))) := by
              show World.ownsRow _ _ _ _ _ _ _
              rw [HN2.out, wrCells_snoc, List.length_append]
              exact own8
            have hB2 : Below w13.heap.size w13 w8 := (hB.alloc hsz _).grown hg8 (by simp; omega) (fun j hj => (own.lt j hj).1)
            clear own8 hg8 hnw8 own
            go_wp2
            go_roundw
            case rel => exact ⟨k + 1, by omega, by go_num, HO2, hB2⟩
            case measure => simp [intOf]; omega
          · have HO2 : Hid (wr.ownsRow w13.heap.size 32 4 (.slice vg (ofR (l.take k) r).length vk) (ofR (l.take (k + 1)) r).length (wrCells (ofR (l.take (k + 1)) r))) := by
              show World.ownsRow _ _ _ _ _ _ _
              rw [HN.out, if_neg hr]
              exact HOw.out
            have dr : (t' == r) = false := by simpa using hr
            clear HN HOw hr
            go_wp2
            go_roundw
            case rel => exact ⟨k + 1, by omega, by go_num, HO2, hB⟩
            case measure => simp [intOf]; omega
        · obtain rfl : k = l.length := by omega
          have hki : decide ((l.length : Int) < (l.length : Int)) = false := decide_eq_false (by omega)
          have HE : Hid (ofR (l.take l.length) r = ofV l r) := by show _ = _; rw [HOV.out, List.take_length]
          have HW : Hid (Wrs wr (.slice vg (ofR (l.take l.length) r).length vk) (ofR (l.take l.length) r)) := evs_of_own HOw.out
          have hx14 := hx13.step hB
          rw [HE.out] at HW ⊢
          clear HOw
          go_wp2
          go_meet
          case rel => exact ⟨vg, vk, rfl, HW, hx14⟩
    · have HOV : Hid (ofV l r = []) := by show _ = _; unfold ofV; rw [if_neg (fun e => h0 (HOE2.out.symm.trans e))]
      have d0 : (OE == 0) = false := by simpa using h0
      clear h0
      go_wp2_with fail
      refine wp_loop_rounds 1 ?_
      rw [rounds_succ]
      go_wp2_with fail
      all_goals (go_meet; exact ⟨none, 0, by rw [HOV.out]; rfl, by show Wrs _ _ _; rw [HOV.out]; exact Or.inl ⟨rfl, _, _, rfl⟩, hx13⟩)
  case rest =>
  obtain ⟨ha, hc, rfl, HH, hx14⟩ := hcut
  generalize wc = w14 at *
  clear hx13
  go_step
  have q1 := HOf.out w14 hx14.below
  rw [HOE2.out] at q1
  have HOL : Hid ((ofV l r).length ≤ 1000000) := ofV_len l r
  clear HOf
  go_upto_region 47 with (go_at_call 18; refine q1.mono ?_; rintro e w15 ⟨oa, oc, rfl, HO5, b15⟩; clear q1)
  have hx15 := hx14.step b15
  have HH5 : Hid (Wrs w15 (.slice ha (ofV l r).length hc) (ofV l r)) := HH.out.all b15
  have q2 := HEr.out OE w15 hx15.below
  clear hx14 b15 HH
  go_upto_region 48 with (first
    | (go_at_call 11; refine q2.mono ?_; rintro e w16 ⟨rfl, b16⟩; clear q2; have hx16 := hx15.step b16; have q3 := HSE.out (ofV l r) _ _ w16 HOL.out (HO5.out.all b16) (HH5.out.all b16))
    | (go_at_call 12; refine q3.mono ?_; rintro e w17 ⟨rfl, b17⟩; clear q3; have hx17 := hx16.step b17))
  clear hx15 hx16 b16 b17 HO5 HH5 HOL
  have q4 := HRd.out w17
  obtain ⟨ZE, hZE⟩ : ∃ x, (evP t.data.toList).2 = x := ⟨_, rfl⟩
  obtain ⟨ZL, hZL⟩ : ∃ x, (evP t.data.toList).1 = x := ⟨_, rfl⟩
  rw [hZL] at HPL
  have HPa2 := HPa.out
  rw [hZE, hZL] at q4
  clear HRd
  go_upto_region 49 with (go_at_call 19; refine q4.mono ?_; rintro e w18 ⟨ra, rc, rfl, HRR, b18⟩; clear q4)
  have hx18 := hx17.step b18
  have q5 := HPa2 w18 hx18.below
  rw [hZE, hZL] at q5
  clear hx17 b18 HPa2 HPa hZE hZL
  go_upto_region 50 with (go_at_call 20; refine q5.mono ?_; rintro e w19 ⟨pa, pc, rfl, HPP, b19⟩; clear q5)
  have hx19 := hx18.step b19
  have HRS : Hid (Wrs w19 (.slice ra ZL.length rc) ZL) := HRR.out.all b19
  have q6 := HEr.out ZE w19 hx19.below
  clear hx18 b19 HRR
  go_upto_region 51 with (first
    | (go_at_call 11; refine q6.mono ?_; rintro e w20 ⟨rfl, b20⟩; clear q6; have hx20 := hx19.step b20; have q7 := HSE.out ZL _ _ w20 HPL.out (HPP.out.all b20) (HRS.out.all b20))
    | (go_at_call 12; refine q7.mono ?_; rintro e w21 ⟨rfl, b21⟩; clear q7; have hx21 := hx20.step b21))
  go_wp2_with fail
  go_ret
  exact ⟨rfl, hx21.below⟩
end Go.Proofs.YtfconbblnmbnpahGreatDoor

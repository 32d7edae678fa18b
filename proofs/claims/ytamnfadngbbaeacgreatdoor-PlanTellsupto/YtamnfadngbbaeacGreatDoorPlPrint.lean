/-
  Print: the text of a plan that is right; of any plan.
-/
import Derived.Test.YtamnfadngbbaeacGreatDoorPlTab
import Derived.Test.YtamnfadngbbaeacGreatDoorRefPlanText
import Derived.Test.YtamnfadngbbaeacGreatDoorPrint
import Derived.Test.YtamnfadngbbaeacGreatDoorNumber
namespace Go.Proofs.YtamnfadngbbaeacGreatDoor
open Go.RowKit

set_option maxRecDepth 1000000 in
set_option maxHeartbeats 4000000 in
theorem plprint_bad (p : PD) (ca sa wa : Option Addr) (cn cc sn sc wn wc : Nat) (w : World) (z : Int) (hz : z ≠ 0)
    (hck : ∀ W, Below w.heap.size w W → Calls Tryz.prog 7 #[.agg #[.slice ca cn cc, .int .i64 p.ticks, .slice sa sn sc, .slice wa wn wc]] W fun e w' => e = .returned (wErr z) ∧ Below W.heap.size W w') :
    Calls Tryz.prog 9 #[.agg #[.slice ca cn cc, .int .i64 p.ticks, .slice sa sn sc, .slice wa wn wc]] w fun e w' => e = .returned (.tuple #[.string ⟨#[]⟩, wErr z]) ∧ Below w.heap.size w w' := by
  rw [wErr_not hz] at hck ⊢
  have bx := (Bx.first w (.slice ca cn cc) p.ticks (.slice sa sn sc) (.slice wa wn wc)).below
  have q1 := hck _ bx
  clear hck hz
  go_enter Tryz.func9, Tryz.ntmps9
  go_wp2_with (go_at_call 7; refine q1.mono ?_; rintro e w1 ⟨rfl, b1⟩; clear q1)
  go_ret2
  exact ⟨rfl, bx.trans (b1.mono bx.size)⟩
theorem cells_on (t l : List UInt8) : Lib.byteCells (t ++ l) = Lib.byteCells t ++ Lib.strCells ⟨l.toArray⟩ := by
  simp [Lib.byteCells, Lib.strCells]
/-- What Print's loops hold: the text so far. -/
def PrW (w1 : World) (t : List UInt8) (W : World) : Prop := Lib.IsBuilderF 63 5 w1.heap.size w1.heap.size (Lib.byteCells t) W ∧ Below w1.heap.size w1 W
/-- A line more. -/
theorem prw_line {w1 W W2 : World} {t l : List UInt8} (h : PrW w1 t W) (hb : Below W.heap.size W W2) (hl : t.length + l.length ≤ 40000) :
    Calls Tryz.prog 24 #[.pointer (some ⟨w1.heap.size, 0, none⟩), .string ⟨l.toArray⟩] W2 fun e w' => ∃ v, e = .returned v ∧ PrW w1 (t ++ l) w' := by
  have hsz := h.2.size
  have h3 := isb_all h.1 hb
  have hb3 := h.2.trans (hb.mono hsz)
  refine (writeString_any w1.heap.size w1.heap.size _ _ _ h3 (by rw [Lib.byteCells_length, ba_size]; omega) hb3.size).mono ?_
  rintro e w4 ⟨rfl, h4, b4, _⟩
  exact ⟨_, rfl, by rw [cells_on]; exact Or.inr h4, hb3.trans b4⟩
set_option maxRecDepth 1000000 in
set_option maxHeartbeats 8000000 in
theorem plprint_good (p : PD) (ca sa wa : Option Addr) (cc sc wc : Nat) (w : World) (ht : Tabs w) (hpt : Parts w) (hz : plchk p = 0) (hp : Pln w (.slice ca p.code.length cc) (.slice sa p.spans.length sc) (.slice wa p.wires.length wc) p)
    (hck : ∀ W, Below w.heap.size w W → Calls Tryz.prog 7 #[.agg #[.slice ca p.code.length cc, .int .i64 p.ticks, .slice sa p.spans.length sc, .slice wa p.wires.length wc]] W fun e w' => e = .returned .nilIface ∧ Below W.heap.size W w') :
    Calls Tryz.prog 9 #[.agg #[.slice ca p.code.length cc, .int .i64 p.ticks, .slice sa p.spans.length sc, .slice wa p.wires.length wc]] w fun e w' => e = .returned (.tuple #[.string ⟨(planB p).toArray⟩, .nilIface]) ∧ Below w.heap.size w w' := by
  have hx0 := Bx.first w (.slice ca p.code.length cc) p.ticks (.slice sa p.spans.length sc) (.slice wa p.wires.length wc)
  have q1 := hck _ hx0.below
  have HP : Hid (Pln w (.slice ca p.code.length cc) (.slice sa p.spans.length sc) (.slice wa p.wires.length wc) p) := hp
  have HT : Hid (∀ W, Below w.heap.size w W → Tabs W ∧ Parts W) := fun W hb => ⟨ht.all hb, hpt.all hb⟩
  obtain ⟨tl0, tl1, tl2, tl3⟩ := tx_len hz
  have HL : Hid ((txF p).length ≤ 100 ∧ (∀ k, (txS p k).length ≤ 2000) ∧ (∀ k, (txW p k).length ≤ 5000) ∧ ∀ k, (txC p k).length ≤ 20000) := ⟨tl0, tl1, tl2, tl3⟩
  have hsm := plan_small hz
  have HS : Hid (Small p) := hsm
  have hsl : p.spans.length ≤ 12 := (fchk_zero (plchk_zero hz).2.2.1).2.2.1
  have hwl : p.wires.length ≤ 12 := (wschk_ok (plchk_zero hz).2.2.2.1).1
  have hcl : p.code.length ≤ 5 := (plchk_zero hz).1
  clear hck hp ht hpt tl0 tl1 tl2 tl3 hz hsm
  go_enter Tryz.func9, Tryz.ntmps9
  go_wp2_with (go_at_call 7; refine q1.mono ?_)
  rintro e w1 ⟨rfl, b1⟩
  have hx1 := hx0.step b1
  clear b1 hx0 q1
  have k1 := hx1.c1
  have hb0 : Below w1.heap.size w1 (w1.alloc (.cells #[.pointer none, .slice none 0 0] 63)) := (Below.refl _ w1).alloc (Nat.le_refl _) _
  have hp0 : PrW w1 [] (w1.alloc (.cells #[.pointer none, .slice none 0 0] 63)) := ⟨Lib.IsBuilderF.of (Lib.fresh_isBuilder 63 5 w1), hb0⟩
  have hb1 : Below (w1.alloc (.cells #[.pointer none, .slice none 0 0] 63)).heap.size (w1.alloc (.cells #[.pointer none, .slice none 0 0] 63)) ((w1.alloc (.cells #[.pointer none, .slice none 0 0] 63)).alloc (.cells #[.int .i64 p.ticks] 3)) := (Below.refl _ _).alloc (Nat.le_refl _) _
  have hbw : Below w.heap.size w ((w1.alloc (.cells #[.pointer none, .slice none 0 0] 63)).alloc (.cells #[.int .i64 p.ticks] 3)) := hx1.below.trans ((hb0.trans (hb1.mono hb0.size)).mono hx1.below.size)
  have q2 := plline_any 1 _ [p.ticks] _ (by decide) (by decide) (HT.out _ hbw).2 (HT.out _ hbw).1.pow (ints_lone (k := w1.heap.size + 1) (W := w1.alloc (.cells #[.pointer none, .slice none 0 0] 63)) (by simp) p.ticks 3) (fun z hz => by simp at hz; subst hz; have := HS.out.ticks; omega) (by simp)
  rw [show ((1 : Nat) : Int) = 1 from rfl] at q2
  have hlt1 : w.heap.size < w1.heap.size := hx1.size
  go_wp2_with (go_at_call 25; refine q2.mono ?_)
  rintro e w2 ⟨rfl, b2⟩
  have q3 := prw_line hp0 (hb1.trans (b2.mono (by simp))) (l := lineB (wordB 1) [p.ticks]) (by have := HL.out.1; have e : txF p = lineB (wordB 1) [p.ticks] := rfl; rw [e] at this; simp; omega)
  clear q2 hb0 hb1 hbw b2 hp0 k1
  go_wp2_with (go_at_call 24; refine q3.mono ?_)
  rintro e w3 ⟨v3, rfl, hp3⟩
  have HP3 : PrW w1 (txF p) w3 := hp3
  clear q3 hp3
  have hx3 := hx1.step HP3.2
  have k2 := hx3.c2
  go_wp2
  go_loopw [27] (fun i wr => ∃ k : Nat, k ≤ p.spans.length ∧ i = .int .i64 k ∧ PrW w1 (txS p k) wr) (fun i _ => p.spans.length - (intOf i).toNat)
  case atStart => exact ⟨0, Nat.zero_le _, rfl, by rw [txS_zero]; exact HP3⟩
  case round =>
  clear HP3 hx3 k2
  obtain ⟨k, hk, rfl, hpr⟩ := hrel
  have hbr := hx1.below.trans (hpr.2.mono hx1.below.size)
  by_cases hkl : k < p.spans.length
  · have hki : (k : Int) < (p.spans.length : Int) := by omega
    obtain ⟨b, off, f, t, r, rfl, hlt, hy, d0, d1, d2⟩ := HP.out.spans.at hkl
    replace d0 := (hbr.cell (p := ⟨b, _, none⟩) hlt).trans d0
    replace d1 := (hbr.cell (p := ⟨b, _, none⟩) hlt).trans d1
    replace d2 := (hbr.cell (p := ⟨b, _, none⟩) hlt).trans d2
    have HY : Hid (p.spans[k]? = some (f, t, r)) := hy
    have hmem := HS.out.spans (f, t, r) (List.mem_of_getElem? hy)
    clear hy
    have hb1 : Below wr.heap.size wr ((wr.alloc (.cells #[.int .i64 f, .int .i64 t, .int .i64 r] 45)).alloc (.cells #[.int .i64 f, .int .i64 t, .int .i64 r] 3)) := ((Below.refl _ wr).alloc (Nat.le_refl _) _).alloc (by simp) _
    have hbw := hbr.trans (hb1.mono hbr.size)
    have q2 := plline_any 2 _ [f, t, r] _ (by decide) (by decide) (HT.out _ hbw).2 (HT.out _ hbw).1.pow (ints_three (k := wr.heap.size + 1) (W := wr.alloc (.cells #[.int .i64 f, .int .i64 t, .int .i64 r] 45)) (by simp) f t r 3) (fun z hz => by have := hmem z (by simpa using hz); omega) (by simp)
    rw [show ((2 : Nat) : Int) = 2 from rfl] at q2
    have hln : txS p (k + 1) = txS p k ++ lineB (wordB 2) [f, t, r] := txS_next HY.out
    have HN : Hid (txS p (k + 1) = txS p k ++ lineB (wordB 2) [f, t, r]) := hln
    have hlen : (txS p k).length + (lineB (wordB 2) [f, t, r]).length ≤ 40000 := by
      have := HL.out.2.1 (k + 1)
      rw [hln, List.length_append] at this
      omega
    clear hln hmem
    go_wp2_with (go_at_call 25; refine q2.mono ?_)
    rintro e w2 ⟨rfl, b2⟩
    have q3 := prw_line hpr (hb1.trans (b2.mono (by simp; omega))) hlen
    clear q2 hb1 hbw b2 d0 d1 d2 hlen
    go_wp2_with (go_at_call 24; refine q3.mono ?_)
    rintro e w4 ⟨v4, rfl, hp4⟩
    clear q3
    go_wp2
    go_roundw
    case rel => exact ⟨k + 1, by omega, by go_num, by rw [HN.out]; exact hp4⟩
    case measure => simp [intOf]; omega
  have hki : decide ((k : Int) < (p.spans.length : Int)) = false := decide_eq_false (by omega)
  have hkn : decide (k < p.spans.length) = false := decide_eq_false (by omega)
  obtain rfl : k = p.spans.length := by omega
  have k3 := (hx1.step hpr.2).c3
  clear hkl hk
  go_wp2
  rename World => wo
  go_loopw [44] (fun i wr => ∃ k : Nat, k ≤ p.wires.length ∧ i = .int .i64 k ∧ PrW w1 (txW p k) wr) (fun i _ => p.wires.length - (intOf i).toNat)
  case atStart => exact ⟨0, Nat.zero_le _, rfl, by rw [txW_zero]; exact hpr⟩
  case round =>
  clear hpr k3 hbr hki hkn
  obtain ⟨k, hk, rfl, hpr⟩ := hrel
  have hbr := hx1.below.trans (hpr.2.mono hx1.below.size)
  by_cases hkl : k < p.wires.length
  · have hki : (k : Int) < (p.wires.length : Int) := by omega
    obtain ⟨b, off, f, t, kd, dp, rfl, hlt, hy, d0, d1, d2, d3⟩ := HP.out.wires.at hkl
    replace d0 := (hbr.cell (p := ⟨b, _, none⟩) hlt).trans d0
    replace d1 := (hbr.cell (p := ⟨b, _, none⟩) hlt).trans d1
    replace d2 := (hbr.cell (p := ⟨b, _, none⟩) hlt).trans d2
    replace d3 := (hbr.cell (p := ⟨b, _, none⟩) hlt).trans d3
    have HY : Hid (p.wires[k]? = some (f, t, kd, dp)) := hy
    have hmem := HS.out.wires (f, t, kd, dp) (List.mem_of_getElem? hy)
    clear hy
    have hb1 : Below wr.heap.size wr ((wr.alloc (.cells #[.int .i64 f, .int .i64 t, .int .i64 kd, .int .i64 dp] 47)).alloc (.cells #[.int .i64 f, .int .i64 t, .int .i64 kd, .int .i64 dp] 3)) := ((Below.refl _ wr).alloc (Nat.le_refl _) _).alloc (by simp) _
    have hbw := hbr.trans (hb1.mono hbr.size)
    have q2 := plline_any 3 _ [f, t, kd, dp] _ (by decide) (by decide) (HT.out _ hbw).2 (HT.out _ hbw).1.pow (ints_four (k := wr.heap.size + 1) (W := wr.alloc (.cells #[.int .i64 f, .int .i64 t, .int .i64 kd, .int .i64 dp] 47)) (by simp) f t kd dp 3) (fun z hz => by have := hmem z (by simpa using hz); omega) (by simp)
    rw [show ((3 : Nat) : Int) = 3 from rfl] at q2
    have hln : txW p (k + 1) = txW p k ++ lineB (wordB 3) [f, t, kd, dp] := txW_next HY.out
    have HN : Hid (txW p (k + 1) = txW p k ++ lineB (wordB 3) [f, t, kd, dp]) := hln
    have hlen : (txW p k).length + (lineB (wordB 3) [f, t, kd, dp]).length ≤ 40000 := by
      have := HL.out.2.2.1 (k + 1)
      rw [hln, List.length_append] at this
      omega
    clear hln hmem
    go_wp2_with (go_at_call 25; refine q2.mono ?_)
    rintro e w2 ⟨rfl, b2⟩
    have q3 := prw_line hpr (hb1.trans (b2.mono (by simp; omega))) hlen
    clear q2 hb1 hbw b2 d0 d1 d2 d3 hlen
    go_wp2_with (go_at_call 24; refine q3.mono ?_)
    rintro e w4 ⟨v4, rfl, hp4⟩
    clear q3
    go_wp2
    go_roundw
    case rel => exact ⟨k + 1, by omega, by go_num, by rw [HN.out]; exact hp4⟩
    case measure => simp [intOf]; omega
  have hki : decide ((k : Int) < (p.wires.length : Int)) = false := decide_eq_false (by omega)
  have hkn : decide (k < p.wires.length) = false := decide_eq_false (by omega)
  obtain rfl : k = p.wires.length := by omega
  have k0 := (hx1.step hpr.2).c0
  clear hkl hk
  go_wp2
  rename World => wo
  go_loopw [63] (fun i wr => ∃ k : Nat, k ≤ p.code.length ∧ i = .int .i64 k ∧ PrW w1 (txC p k) wr) (fun i _ => p.code.length - (intOf i).toNat)
  case atStart => exact ⟨0, Nat.zero_le _, rfl, by rw [txC_zero]; exact hpr⟩
  case round =>
  clear hpr k0 hbr hki hkn
  obtain ⟨k, hk, rfl, hpr⟩ := hrel
  have hbr := hx1.below.trans (hpr.2.mono hx1.below.size)
  by_cases hkl : k < p.code.length
  · have hki : (k : Int) < (p.code.length : Int) := by omega
    obtain ⟨b, off, u, n, g, c, rfl, hlt, hy, d0, rfl, hops⟩ := HP.out.code.at hkl
    replace d0 := (hbr.cell (p := ⟨b, _, none⟩) hlt).trans d0
    have HY : Hid (p.code[k]? = some c) := hy
    have hc0 := HS.out.code c (List.mem_of_getElem? hy)
    clear hy
    have q1 := print_any _ c wr (HT.out _ hbr).1 (hops.all hbr)
    unfold textOf at q1
    rw [if_pos hc0, hc0, show errV 0 = .nilIface from rfl] at q1
    have hln : txC p (k + 1) = txC p k ++ ([114, 111, 111, 109, 10] ++ textB c) := txC_next HY.out
    have HN : Hid (txC p (k + 1) = (txC p k ++ lineB (wordB 4) []) ++ textB c) := by show _ = _; rw [hln, List.append_assoc]; rfl
    have hlen : (txC p k).length + (lineB (wordB 4) []).length + (textB c).length ≤ 40000 := by
      have := HL.out.2.2.2 (k + 1)
      have e : lineB (wordB 4) [] = [114, 111, 111, 109, 10] := rfl
      rw [hln, List.length_append, List.length_append] at this
      rw [e]
      omega
    clear hln hc0 hops
    go_wp2_with (go_at_call 26; refine q1.mono ?_)
    rintro e w2 ⟨rfl, b2⟩
    have hbw := hbr.trans (b2.mono hbr.size)
    have q2 := plline_any 4 (.slice none 0 0) [] w2 (by decide) (by decide) (HT.out _ hbw).2 (HT.out _ hbw).1.pow (Or.inl ⟨rfl, rfl⟩) (fun z hz => by simp at hz) (by simp)
    rw [show ((4 : Nat) : Int) = 4 from rfl] at q2
    clear q1 d0
    go_wp2_with (go_at_call 25; refine q2.mono ?_)
    rintro e w3 ⟨rfl, b3⟩
    have q3 := prw_line hpr (b2.trans (b3.mono b2.size)) (l := lineB (wordB 4) []) (by omega)
    clear q2 hbw b2 b3
    go_wp2_with (go_at_call 24; refine q3.mono ?_)
    rintro e w4 ⟨v4, rfl, hp4⟩
    have q4 := prw_line hp4 (Below.refl _ w4) (l := textB c) (by rw [List.length_append]; omega)
    clear q3
    go_wp2_with (go_at_call 24; refine q4.mono ?_)
    rintro e w5 ⟨v5, rfl, hp5⟩
    clear q4 hp4
    go_wp2
    go_roundw
    case rel => exact ⟨k + 1, by omega, by go_num, by rw [HN.out]; exact hp5⟩
    case measure => simp [intOf]; omega
  have hki : decide ((k : Int) < (p.code.length : Int)) = false := decide_eq_false (by omega)
  have hkn : decide (k < p.code.length) = false := decide_eq_false (by omega)
  obtain rfl : k = p.code.length := by omega
  rw [txC_all] at hpr
  clear hkl hk
  go_wp2_with (go_at_call 27; refine (Tryz.Builder_String_any_k w1.heap.size w1.heap.size _ _ hpr.1 hpr.2.size).mono ?_)
  rintro e w3 ⟨rfl, _, b3, _⟩
  go_wp2
  go_ret2
  exact ⟨rfl, hx1.below.trans ((hpr.2.trans b3).mono hx1.below.size)⟩
theorem plprint_any {G : World → Prop} (gall : ∀ w w', G w → Below w.heap.size w w' → G w') (gt : ∀ w, G w → Tabs2 w ∧ Parts w)
    (gchk : ∀ (p : PD) (vc vs vw : Value) (W : World), G W → Pln W vc vs vw p → Calls Tryz.prog 7 #[plV vc p.ticks vs vw] W fun e w' => e = .returned (wErr (plchk p)) ∧ Below W.heap.size W w')
    (p : PD) (vc vs vw : Value) (w : World) (hG : G w) (hp : Pln w vc vs vw p) :
    Calls Tryz.prog 9 #[plV vc p.ticks vs vw] w fun e w' => e = .returned (.tuple #[.string ⟨(if plchk p = 0 then planB p else []).toArray⟩, wErr (plchk p)]) ∧ Below w.heap.size w w' := by
  have hck := fun W (hb : Below w.heap.size w W) => gchk p vc vs vw W (gall w W hG hb) (hp.all hb)
  obtain ⟨ca, cc, rfl⟩ := hp.code.form
  obtain ⟨sa, sc, rfl⟩ := hp.spans.form
  obtain ⟨wa, wc, rfl⟩ := hp.wires.form
  by_cases hz : plchk p = 0
  · rw [if_pos hz, hz]
    rw [hz] at hck
    exact plprint_good p ca sa wa cc sc wc w (gt w hG).1.tabs (gt w hG).2 hz hp hck
  · rw [if_neg hz]
    exact plprint_bad p ca sa wa _ cc _ sc _ wc w _ hz hck
end Go.Proofs.YtamnfadngbbaeacGreatDoor

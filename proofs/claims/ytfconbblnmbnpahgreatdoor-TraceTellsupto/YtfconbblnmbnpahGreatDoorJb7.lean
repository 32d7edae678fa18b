/-
  TcChk, TcCnt, TcOf, TcParse: joined into one text.
-/
import Derived.Test.YtfconbblnmbnpahGreatDoorJb4
import Derived.Deep.RegionWith
import Derived.Deep.CutRange
import Derived.RangeFuncNested
import Derived.Test.YtfconbblnmbnpahGreatDoorJb2
import Derived.Test.YtfconbblnmbnpahGreatDoorJb1
import Derived.Test.YtfconbblnmbnpahGreatDoorJb6
import Derived.Maps.AppendAt
import Derived.Test.YtfconbblnmbnpahGreatDoorJb3
namespace Go.Proofs.YtfconbblnmbnpahGreatDoor
open Go.RowKit

set_option maxRecDepth 100000 in
set_option maxHeartbeats 1000000 in
theorem evwrong_yes (a b c d : Int) (w : World) (h : evBad (a, b, c, d) ≠ 0) : Calls Tryz.prog 79 #[.agg #[.int .i64 a, .int .i64 b, .int .i64 c, .int .i64 d]] w fun x w' => x = .returned (.bool true) ∧ Below w.heap.size w w' := by
  have q := fault_any a b c d (w.alloc (.cells #[.int .i64 a, .int .i64 b, .int .i64 c, .int .i64 d] 32))
  rw [wErr_not h] at q
  generalize evBad (a, b, c, d) = z at q
  clear h
  go_enter Tryz.func79, Tryz.ntmps79
  go_wp2_with (go_at_call 80; refine q.mono ?_; rintro e w1 ⟨rfl, b1⟩; clear q)
  go_ret
  exact ⟨rfl, ((Below.refl _ _).alloc (Nat.le_refl _) _).trans (b1.mono (by simp))⟩
set_option maxRecDepth 100000 in
set_option maxHeartbeats 1000000 in
theorem evwrong_no (a b c d : Int) (w : World) (h : evBad (a, b, c, d) = 0) : Calls Tryz.prog 79 #[.agg #[.int .i64 a, .int .i64 b, .int .i64 c, .int .i64 d]] w fun x w' => x = .returned (.bool false) ∧ Below w.heap.size w w' := by
  have q := fault_any a b c d (w.alloc (.cells #[.int .i64 a, .int .i64 b, .int .i64 c, .int .i64 d] 32))
  rw [h, show wErr 0 = .nilIface from rfl] at q
  clear h
  go_enter Tryz.func79, Tryz.ntmps79
  go_wp2_with (go_at_call 80; refine q.mono ?_; rintro e w1 ⟨rfl, b1⟩; clear q)
  go_ret
  exact ⟨rfl, ((Below.refl _ _).alloc (Nat.le_refl _) _).trans (b1.mono (by simp))⟩
theorem evScan_at : ∀ {l : List W4} {k : Nat} {x : W4}, (∀ (j : Nat) y, j < k → l[j]? = some y → evBad y = 0) → l[k]? = some x → evBad x ≠ 0 → evScan l = evBad x
  | [], _, _, _, h, _ => by simp at h
  | e :: l, 0, x, _, h, hx => by
    simp at h
    subst h
    unfold evScan
    rw [if_neg hx]
  | e :: l, k + 1, x, ha, h, hx => by
    have h0 := ha 0 e (Nat.zero_lt_succ _) rfl
    unfold evScan
    rw [if_pos h0]
    exact evScan_at (k := k) (fun j y hj hy => ha (j + 1) y (by omega) (by simpa using hy)) (by simpa using h) hx
theorem evScan_none {l : List W4} (h : ∀ (j : Nat) y, j < l.length → l[j]? = some y → evBad y = 0) : evScan l = 0 := by
  rw [evScan_zero]
  intro e he
  obtain ⟨j, hj, rfl⟩ := List.mem_iff_getElem.1 he
  exact h j _ hj (List.getElem?_eq_getElem hj)
set_option maxRecDepth 100000 in
set_option maxHeartbeats 2000000 in
theorem evindex_any (l : List W4) (v : Value) (w : World) (hl : Wrs w v l) (hlen : l.length ≤ 2000) :
    Calls Tryz.prog 81 #[v, .func (.func 79) #[] #[]] w fun e w' =>
      (∃ r : Int, e = .returned (.int .i64 r) ∧ ((r = -1 ∧ evScan l = 0) ∨ ∃ (k : Nat) (x : W4), r = k ∧ l[k]? = some x ∧ evBad x ≠ 0 ∧ evScan l = evBad x)) ∧ Below w.heap.size w w' := by
  obtain ⟨ao, cap, rfl⟩ := hl.form
  have HL : Hid (Wrs w (.slice ao l.length cap) l) := hl
  clear hl
  go_enter Tryz.func81, Tryz.ntmps81
  go_wp2
  go_loopw [8] (fun i wr => ∃ k : Nat, k ≤ l.length ∧ i = .int .i64 k ∧ Hid (∀ (j : Nat) y, j < k → l[j]? = some y → evBad y = 0) ∧ Below w.heap.size w wr) (fun i _ => l.length - (intOf i).toNat)
  case atStart => exact ⟨0, Nat.zero_le _, rfl, fun j x hj => by omega, Below.refl _ _⟩
  case round =>
    obtain ⟨k, hk, rfl, HS, hb⟩ := hrel
    by_cases hkl : k < l.length
    · obtain ⟨b, off, f, t, kd, d, rfl, hlt, hx, c0, c1, c2, c3⟩ := HL.out.at hkl
      have HX : Hid (l[k]? = some (f, t, kd, d)) := hx
      replace c0 := (hb.cell (p := ⟨b, _, none⟩) hlt).trans c0
      replace c1 := (hb.cell (p := ⟨b, _, none⟩) hlt).trans c1
      replace c2 := (hb.cell (p := ⟨b, _, none⟩) hlt).trans c2
      replace c3 := (hb.cell (p := ⟨b, _, none⟩) hlt).trans c3
      clear hx
      by_cases hz : evBad (f, t, kd, d) = 0
      · have HZ : Hid (evBad (f, t, kd, d) = 0) := hz
        have q := fun W => evwrong_no f t kd d W hz
        clear hz
        go_wp2_with (go_at_call 79; refine (q _).mono ?_; rintro e w1 ⟨rfl, b1⟩; clear q)
        go_roundw
        case rel =>
          refine ⟨k + 1, by omega, by go_num, fun j y hj hy => ?_, hb.trans (b1.mono hb.size)⟩
          by_cases hjk : j < k
          · exact HS.out j y hjk hy
          · obtain rfl : j = k := by omega
            rw [HX.out] at hy
            obtain rfl := Option.some.inj hy
            exact HZ.out
        case measure => simp [intOf]; omega
      · have HZ : Hid (evBad (f, t, kd, d) ≠ 0) := hz
        have q := fun W => evwrong_yes f t kd d W hz
        clear hz
        go_wp2_with (go_at_call 79; refine (q _).mono ?_; rintro e w1 ⟨rfl, b1⟩; clear q)
        go_ret
        exact ⟨⟨_, rfl, Or.inr ⟨k, _, rfl, HX.out, HZ.out, evScan_at HS.out HX.out HZ.out⟩⟩, hb.trans (b1.mono hb.size)⟩
    · obtain rfl : k = l.length := by omega
      have HF : Hid (evScan l = 0) := evScan_none HS.out
      clear HL
      go_wp2
      go_ret
      exact ⟨⟨_, rfl, Or.inl ⟨rfl, HF.out⟩⟩, hb⟩
set_option maxRecDepth 100000 in
set_option maxHeartbeats 2000000 in
theorem evcheck_any (l : List W4) (v : Value) (w : World) (hl : Wrs w v l) :
    Calls Tryz.prog 40 #[v] w fun e w' => e = .returned (wErr (evchk l)) ∧ Below w.heap.size w w' := by
  obtain ⟨ao, cap, rfl⟩ := hl.form
  by_cases h : 2000 < l.length
  · have HF : Hid (evchk l = 4) := by show _ = _; unfold evchk; rw [if_pos h]
    have hi : (2000 : Int) < (l.length : Int) := by omega
    clear hl
    go_enter Tryz.func40, Tryz.ntmps40
    go_wp2
    go_ret
    rw [HF.out]
    exact ⟨rfl, Below.refl _ _⟩
  · have HF : Hid (evchk l = evScan l) := by show _ = _; unfold evchk; rw [if_neg h]
    have hi : decide ((2000 : Int) < (l.length : Int)) = false := by simp; omega
    have hn : decide (2000 < l.length) = false := by simp; omega
    have q := evindex_any l _ w hl (by omega)
    have HL : Hid (Wrs w (.slice ao l.length cap) l) := hl
    clear hl
    go_enter Tryz.func40, Tryz.ntmps40
    go_upto_region 5 with (go_at_call 81; refine q.mono ?_; rintro e w1 ⟨⟨r, rfl, hr⟩, b1⟩; clear q)
    rcases hr with ⟨rfl, h0⟩ | ⟨k, ⟨x0, x1, x2, x3⟩, rfl, hx, hne, hs⟩
    · have H0 : Hid (evScan l = 0) := h0
      clear h0
      go_wp2
      go_ret
      rw [HF.out, H0.out]
      exact ⟨rfl, b1⟩
    · have hkl : k < l.length := (List.getElem?_eq_some_iff.1 hx).1
      have H0 : Hid (evScan l = evBad (x0, x1, x2, x3)) := hs
      obtain ⟨b, off, f, t, kd, d, rfl, hlt, hx2, c0, c1, c2, c3⟩ := HL.out.at hkl
      rw [hx2] at hx
      obtain ⟨rfl, rfl, rfl, rfl⟩ : f = x0 ∧ t = x1 ∧ kd = x2 ∧ d = x3 := by simpa using hx
      replace c0 := (b1.cell (p := ⟨b, _, none⟩) hlt).trans c0
      replace c1 := (b1.cell (p := ⟨b, _, none⟩) hlt).trans c1
      replace c2 := (b1.cell (p := ⟨b, _, none⟩) hlt).trans c2
      replace c3 := (b1.cell (p := ⟨b, _, none⟩) hlt).trans c3
      have hki : (k : Int) < (l.length : Int) := by omega
      have q2 := fun W => fault_any f t kd d W
      clear hx hx2 hs hne
      go_wp2_with (go_at_call 80; refine (q2 _).mono ?_; rintro e w2 ⟨rfl, b2⟩; clear q2)
      go_ret
      rw [HF.out, H0.out]
      exact ⟨rfl, b1.trans (b2.mono b1.size)⟩
end Go.Proofs.YtfconbblnmbnpahGreatDoor
namespace Go.Proofs.YtfconbblnmbnpahGreatDoor
open Go.RowKit

theorem cntW_next {l : List W4} {k : Nat} {e : W4} (h : l[k]? = some e) (q : Int) : cntW (l.take (k + 1)) q = cntW (l.take k) q + if e.2.2.2 = q then 1 else 0 := by
  obtain ⟨hk, rfl⟩ := List.getElem?_eq_some_iff.1 h
  rw [List.take_succ_eq_append_getElem hk]
  unfold cntW
  rw [List.filter_append, List.length_append]
  by_cases h2 : (l[k]).2.2.2 = q
  · rw [if_pos h2]; simp [h2]
  · rw [if_neg h2]; simp [h2]
theorem cntW_take_le (l : List W4) (k : Nat) (q : Int) : cntW (l.take k) q ≤ l.length := by
  unfold cntW
  have h1 := List.length_filter_le (fun e : W4 => decide (e.2.2.2 = q)) (l.take k)
  have h2 : (l.take k).length ≤ l.length := by simp; omega
  omega
/-- A row of numbers that is being laid. -/
def IxN (w : World) (g n : Nat) (P : Nat → Nat) : Prop := ∀ i, i < n → w.cell? ⟨g, i, none⟩ = some (.int .i64 (P i)) ∧ w.frozen? ⟨g, i, none⟩ = false
theorem IxN.below {w w' : World} {g n B : Nat} {P : Nat → Nat} (h : IxN w g n P) (hb : Below B w w') (hB : g < B) : IxN w' g n P := fun i hi =>
  ⟨(hb.cell (p := ⟨g, _, none⟩) hB).trans (h i hi).1, (hb.frozen (p := ⟨g, _, none⟩) hB).trans (h i hi).2⟩
theorem IxN.set {w : World} {g n : Nat} {P : Nat → Nat} (h : IxN w g n P) {k : Nat} (hk : k < n) (b : Nat) : IxN (w.setCell ⟨g, k, none⟩ (.int .i64 b)) g n (fun i => if i = k then b else P i) := fun i hi => by
  obtain ⟨h1, h2⟩ := h i hi
  refine ⟨?_, (World.frozen?_setCell _ _ _ _).trans h2⟩
  by_cases he : i = k
  · subst he
    simp [go_sem, h1]
  · simp only [if_neg he]
    rw [World.cell?_setCell_other _ _ _ _ (by intro e; injection e with _ e2; omega)]
    exact h1
theorem IxN.congr {w : World} {g n : Nat} {P Q : Nat → Nat} (h : IxN w g n P) (hq : ∀ i, i < n → P i = Q i) : IxN w g n Q := fun i hi => by rw [← hq i hi]; exact h i hi
theorem ixn_new (W : World) (n : Nat) (P : Nat → Nat) (hP : ∀ i, i < n → P i = 0) : IxN (W.alloc (.cells (madeCells #[.int .i64 0] n) 3)) W.heap.size n P := fun i hi => by
  have hN := World.alloc_heap_new W (.cells (madeCells #[.int .i64 0] n) 3)
  rw [hP i hi]
  generalize W.alloc (.cells (madeCells #[.int .i64 0] n) 3) = W2 at hN ⊢
  constructor
  · simp [World.cell?, hN, madeCells, hi, Nat.mod_one]
  · simp [World.frozen?, hN]
theorem made_six (W : World) : (Instr.makeSlice 41 (.int .i64 6) (.int .i64 6)).run Tryz.prog W = .ok (.slice (some ⟨W.heap.size, 0, none⟩) 6 6) (W.alloc (.cells (madeCells #[.int .i64 0] 6) 3)) := by
  obtain ⟨i, hi, hz⟩ : ∃ i, Tryz.prog.info? 3 = some i ∧ (i.zero, i.size, i.bytes) = (some (.int .i64 0), 1, 8) := by
    have : (Tryz.prog.info? 3).map (fun i => (i.zero, i.size, i.bytes)) = some (some (.int .i64 0), 1, 8) := by kernel_rfl
    cases hq : Tryz.prog.info? 3 with
    | none => rw [hq] at this; cases this
    | some i => rw [hq] at this; exact ⟨i, rfl, Option.some.inj this⟩
  simp only [Prod.mk.injEq] at hz
  obtain ⟨hz1, hz2, hz3⟩ := hz
  have := run_make (P := Tryz.prog) W 41 3 i _ (by kernel_rfl) hi hz1 .i64 .i64 6 6 (by omega) (Int.le_refl _) (by rw [hz3]; omega) (by omega)
  rw [hz2] at this
  simpa [Value.cells] using this
theorem countsL_of (l : List W4) (i : Nat) (x : Int) (h : (countsL l)[i]? = some x) : i < 6 ∧ x = (cntW l (i : Int) : Int) := by
  unfold countsL at h
  match i, h with
  | 0, h => simp at h; exact ⟨by omega, h.symm⟩
  | 1, h => simp at h; exact ⟨by omega, h.symm⟩
  | 2, h => simp at h; exact ⟨by omega, h.symm⟩
  | 3, h => simp at h; exact ⟨by omega, h.symm⟩
  | 4, h => simp at h; exact ⟨by omega, h.symm⟩
  | 5, h => simp at h; exact ⟨by omega, h.symm⟩
  | i + 6, h => simp at h
set_option maxRecDepth 100000 in
set_option maxHeartbeats 2000000 in
theorem tcnt_wrong (l : List W4) (v : Value) (w : World) (hl : Wrs w v l) (h0 : evchk l ≠ 0) :
    Calls Tryz.prog 16 #[v] w fun e w' => e = .returned (.tuple #[.slice none 0 0, wErr (evchk l)]) ∧ Below w.heap.size w w' := by
  have q := evcheck_any l v w hl
  rw [wErr_not h0] at q ⊢
  generalize evchk l = z at q ⊢
  clear hl h0
  go_enter Tryz.func16, Tryz.ntmps16
  go_wp2_with (go_at_call 40; refine q.mono ?_; rintro e w1 ⟨rfl, b1⟩; clear q)
  go_ret2
  exact ⟨rfl, b1⟩
set_option maxRecDepth 100000 in
set_option maxHeartbeats 4000000 in
theorem tcnt_ok (l : List W4) (v : Value) (w : World) (hl : Wrs w v l) (h0 : evchk l = 0) :
    Calls Tryz.prog 16 #[v] w fun e w' => ∃ u, e = .returned (.tuple #[u, .nilIface]) ∧ Stp w' u (countsL l) ∧ Below w.heap.size w w' := by
  have q := evcheck_any l v w hl
  rw [h0, show wErr 0 = .nilIface from rfl] at q
  obtain ⟨hlen, hgood⟩ := evchk_zero.1 h0
  have HK : Hid (∀ e ∈ l, evBad e = 0) := hgood
  obtain ⟨ao, cap, rfl⟩ := hl.form
  have HL : Hid (Wrs w (.slice ao l.length cap) l) := hl
  have hmk := made_six
  clear hl h0 hgood
  go_enter Tryz.func16, Tryz.ntmps16
  go_wp2_with (go_at_call 40; refine q.mono ?_; rintro e w1 ⟨rfl, b1⟩; clear q)
  clear hmk
  have HI := ixn_new w1 6 (fun j => cntW (l.take 0) (j : Int)) (fun i _ => by simp [cntW])
  generalize hW : w1.alloc (.cells (madeCells #[.int .i64 0] 6) 3) = w2 at HI ⊢
  have b2 : Below w.heap.size w w2 := by rw [← hW]; exact b1.alloc b1.size _
  have s2 : w1.heap.size < w2.heap.size := by rw [← hW]; simp
  have HI2 : Hid (IxN w2 w1.heap.size 6 (fun j => cntW (l.take 0) (j : Int))) := HI
  clear hW HI
  go_loopw [16] (fun i wr => ∃ k : Nat, k ≤ l.length ∧ i = .int .i64 k ∧ Hid (IxN wr w1.heap.size 6 (fun j => cntW (l.take k) (j : Int))) ∧ Below w.heap.size w wr ∧ w1.heap.size < wr.heap.size) (fun i _ => l.length - (intOf i).toNat)
  case atStart => exact ⟨0, Nat.zero_le _, rfl, HI2, b2, s2⟩
  case round =>
    clear HI2
    obtain ⟨k, hk, rfl, HI, hb, hsz⟩ := hrel
    have hb1 := b1.size
    by_cases hkl : k < l.length
    · obtain ⟨b, off, x0, x1, x2, x3, rfl, hlt, hx, c0, c1, c2, c3⟩ := HL.out.at hkl
      replace c0 := (hb.cell (p := ⟨b, _, none⟩) hlt).trans c0
      replace c1 := (hb.cell (p := ⟨b, _, none⟩) hlt).trans c1
      replace c2 := (hb.cell (p := ⟨b, _, none⟩) hlt).trans c2
      replace c3 := (hb.cell (p := ⟨b, _, none⟩) hlt).trans c3
      obtain ⟨_, _, _, hd, _⟩ := evBad_zero (HK.out _ (List.mem_of_getElem? hx))
      obtain ⟨m, rfl⟩ : ∃ m : Nat, x3 = m := ⟨x3.toNat, by simp only at hd; omega⟩
      have hm : m < 6 := by simp only at hd; omega
      have HN : Hid (∀ j : Nat, cntW (l.take (k + 1)) (j : Int) = cntW (l.take k) (j : Int) + if m = j then 1 else 0) := fun j => by
        rw [cntW_next hx]
        simp only [Int.natCast_inj]
      have hle := cntW_take_le l k (m : Int)
      obtain ⟨d0, f0⟩ := HI.out m hm
      simp only at d0
      obtain ⟨C, hC⟩ : ∃ C, cntW (l.take k) (m : Int) = C := ⟨_, rfl⟩
      have I1 : IxN (wr.setCell ⟨w1.heap.size, m, none⟩ (.int .i64 ((C : Int) + 1))) w1.heap.size 6 (fun j => cntW (l.take (k + 1)) (j : Int)) := by
        refine (HI.out.set hm (C + 1)).congr (fun i hi => ?_)
        rw [HN.out i]
        by_cases he : i = m
        · subst he; rw [if_pos rfl, if_pos rfl, hC]
        · rw [if_neg he, if_neg (fun e => he e.symm)]; rfl
      have z1 : (wr.setCell ⟨w1.heap.size, m, none⟩ (.int .i64 ((C : Int) + 1))).heap.size = wr.heap.size := by simp [World.setCell]
      have I8 : Hid (IxN ((wr.setCell ⟨w1.heap.size, m, none⟩ (.int .i64 ((C : Int) + 1))).alloc (.cells #[.int .i64 x0, .int .i64 x1, .int .i64 x2, .int .i64 m] 32)) w1.heap.size 6 (fun j => cntW (l.take (k + 1)) (j : Int))) := I1.below ((Below.refl _ _).alloc (Nat.le_refl _) _) (by omega)
      have B8 : Below w.heap.size w ((wr.setCell ⟨w1.heap.size, m, none⟩ (.int .i64 ((C : Int) + 1))).alloc (.cells #[.int .i64 x0, .int .i64 x1, .int .i64 x2, .int .i64 m] 32)) := (hb.setCell (p := ⟨w1.heap.size, m, none⟩) hb1 _).alloc (by rw [z1]; exact hb.size) _
      have S8 : w1.heap.size < ((wr.setCell ⟨w1.heap.size, m, none⟩ (.int .i64 ((C : Int) + 1))).alloc (.cells #[.int .i64 x0, .int .i64 x1, .int .i64 x2, .int .i64 m] 32)).heap.size := by rw [World.size_alloc, z1]; omega
      rw [hC] at d0 hle
      have hmi : (m : Int) < 6 := by omega
      clear hx hd HN I1 z1 HI hC HK
      go_wp2
      go_roundw
      case rel => exact ⟨k + 1, by omega, by go_num, I8, B8, S8⟩
      case measure => simp [intOf]; omega
    · obtain rfl : k = l.length := by omega
      have HS : Hid (Stp wr (.slice (some ⟨w1.heap.size, 0, none⟩) 6 6) (countsL l)) := by
        refine Or.inr ⟨_, 0, 6, rfl, hsz, fun i x hx => ?_⟩
        obtain ⟨hi, rfl⟩ := countsL_of l i x hx
        have := (HI.out i hi).1
        rw [List.take_length] at this
        simpa using this
      clear HI HL HK
      go_wp2
      go_ret2
      exact ⟨_, rfl, HS.out, hb⟩
/-- Counts does what the laws of traces ask of it. -/
theorem trc_counts (G : World → Prop) : TrcCounts G := fun l v W _ hl => by
  by_cases h0 : evchk l = 0
  · unfold countsV
    rw [h0, if_pos rfl]
    exact tcnt_ok l v W hl h0
  · unfold countsV
    rw [if_neg h0]
    refine (tcnt_wrong l v W hl h0).mono ?_
    rintro e w' ⟨rfl, hb⟩
    exact ⟨_, rfl, Or.inl ⟨rfl, _, _, rfl⟩, hb⟩
end Go.Proofs.YtfconbblnmbnpahGreatDoor
namespace Go.Proofs.YtfconbblnmbnpahGreatDoor
open Go.RowKit

theorem ofR_next {l : List W4} {k : Nat} {e : W4} (h : l[k]? = some e) (r : Int) : ofR (l.take (k + 1)) r = if e.2.1 = r then ofR (l.take k) r ++ [e] else ofR (l.take k) r := by
  obtain ⟨hk, rfl⟩ := List.getElem?_eq_some_iff.1 h
  rw [List.take_succ_eq_append_getElem hk]
  unfold ofR
  rw [List.filter_append]
  by_cases h2 : (l[k]).2.1 = r
  · rw [if_pos h2]; simp [h2]
  · rw [if_neg h2]; simp [h2]
theorem ofR_take_le (l : List W4) (k : Nat) (r : Int) : (ofR (l.take k) r).length ≤ l.length := by
  unfold ofR
  have h1 := List.length_filter_le (fun e : W4 => decide (e.2.1 = r)) (l.take k)
  have h2 : (l.take k).length ≤ l.length := by simp; omega
  omega
set_option maxRecDepth 100000 in
set_option maxHeartbeats 2000000 in
theorem tof_wrong (l : List W4) (v : Value) (r : Int) (w : World) (hl : Wrs w v l) (h0 : evchk l ≠ 0) :
    Calls Tryz.prog 18 #[v, .int .i64 r] w fun e w' => e = .returned (.tuple #[.slice none 0 0, wErr (evchk l)]) ∧ Below w.heap.size w w' := by
  have q := evcheck_any l v w hl
  rw [wErr_not h0] at q ⊢
  generalize evchk l = z at q ⊢
  clear hl h0
  go_enter Tryz.func18, Tryz.ntmps18
  go_wp2_with (go_at_call 40; refine q.mono ?_; rintro e w1 ⟨rfl, b1⟩; clear q)
  go_ret2
  exact ⟨rfl, b1⟩
set_option maxRecDepth 100000 in
set_option maxHeartbeats 2000000 in
theorem tof_room (l : List W4) (v : Value) (r : Int) (w : World) (hl : Wrs w v l) (h0 : evchk l = 0) (hr : r < -1 ∨ 4 < r) :
    Calls Tryz.prog 18 #[v, .int .i64 r] w fun e w' => e = .returned (.tuple #[.slice none 0 0, wErr 1]) ∧ Below w.heap.size w w' := by
  have q := evcheck_any l v w hl
  rw [h0, show wErr 0 = .nilIface from rfl] at q
  have hwi : wiB r (-1) 4 = false := by
    unfold wiB
    rcases hr with h | h
    · rw [decide_eq_false (show ¬ -1 ≤ r by omega)]; rfl
    · rw [decide_eq_false (show ¬ r ≤ 4 by omega)]; simp
  have q2 := fun w => trroom_of hwi w
  clear hl h0 hr hwi
  go_enter Tryz.func18, Tryz.ntmps18
  go_wp2_with (first | (go_at_call 40; refine q.mono ?_; rintro e w1 ⟨rfl, b1⟩; clear q) | (go_at_call 44; refine (q2 _).mono ?_; rintro e w2 ⟨rfl, hw2⟩; obtain rfl := hw2.symm))
  go_ret2
  exact ⟨rfl, b1⟩
set_option maxRecDepth 100000 in
set_option maxHeartbeats 4000000 in
theorem tof_ok (l : List W4) (v : Value) (r : Int) (w : World) (hl : Wrs w v l) (h0 : evchk l = 0) (hr : -1 ≤ r ∧ r ≤ 4) :
    Calls Tryz.prog 18 #[v, .int .i64 r] w fun e w' => ∃ u, e = .returned (.tuple #[u, .nilIface]) ∧ Wrs w' u (ofR l r) ∧ Below w.heap.size w w' := by
  obtain ⟨jj, hj, hy0, hy1, hy2⟩ := info_parts infoEv
  have q := evcheck_any l v w hl
  rw [h0, show wErr 0 = .nilIface from rfl] at q
  have hwi : wiB r (-1) 4 = true := by
    unfold wiB
    rw [decide_eq_true (show -1 ≤ r by omega), decide_eq_true (show r ≤ 4 by omega)]; rfl
  have q2 := fun w => trroom_of hwi w
  have hlen := (evchk_zero.1 h0).1
  obtain ⟨ao, cap, rfl⟩ := hl.form
  have HL : Hid (Wrs w (.slice ao l.length cap) l) := hl
  clear hl h0 hr hwi
  go_enter Tryz.func18, Tryz.ntmps18
  go_wp2_with (first | (go_at_call 40; refine q.mono ?_; rintro e w1 ⟨rfl, b1⟩; clear q) | (go_at_call 44; refine (q2 _).mono ?_; rintro e w2 ⟨rfl, hw2⟩; obtain rfl := hw2.symm))
  clear q2
  go_loopw [7, 21] (fun v i wr => ∃ k : Nat, k ≤ l.length ∧ i = .int .i64 k ∧ Hid (wr.ownsRow w1.heap.size 32 4 v (ofR (l.take k) r).length (wrCells (ofR (l.take k) r))) ∧ Below w.heap.size w wr ∧ w1.heap.size ≤ wr.heap.size) (fun _ i _ => l.length - (intOf i).toNat)
  case atStart => exact ⟨0, Nat.zero_le _, rfl, World.ownsRow_nil _ _ _ _, b1, Nat.le_refl _⟩
  case round =>
    obtain ⟨k, hk, rfl, HO, hb, hsz⟩ := hrel
    obtain ⟨vo, vk, hvf⟩ := own4_form HO.out
    subst hvf
    have hb1 := b1.size
    by_cases hkl : k < l.length
    · obtain ⟨b, off, x0, x1, x2, x3, rfl, hlt, hx, c0, c1, c2, c3⟩ := HL.out.at hkl
      have HX : Hid (l[k]? = some (x0, x1, x2, x3)) := hx
      replace c0 := (hb.cell (p := ⟨b, _, none⟩) hlt).trans c0
      replace c1 := (hb.cell (p := ⟨b, _, none⟩) hlt).trans c1
      replace c2 := (hb.cell (p := ⟨b, _, none⟩) hlt).trans c2
      replace c3 := (hb.cell (p := ⟨b, _, none⟩) hlt).trans c3
      have hle := ofR_take_le l k r
      have HN := ofR_next hx r
      have ba : Below w.heap.size w (wr.alloc (.cells #[.int .i64 x0, .int .i64 x1, .int .i64 x2, .int .i64 x3] 32)) := hb.alloc hb.size _
      clear hx
      by_cases hz : x1 = r
      · have HE : Hid (ofR (l.take (k + 1)) r = ofR (l.take k) r ++ [(x0, x1, x2, x3)]) := by show _ = _; rw [HN, if_pos hz]
        have hbq : (x1 == r) = true := by simpa using hz
        have own3 := HO.out
        obtain ⟨L, hL⟩ : ∃ L, ofR (l.take k) r = L := ⟨_, rfl⟩
        rw [hL] at own3 HE hle ⊢
        clear HN hz HO hL
        go_wp2_with (at_builtin; refine wpList_append_at _ rfl _ _ 27 rfl w1.heap.size 32 jj _ 4 32 Tryz.underlying27 hj hy0 hy1 hy2 rfl (by decide) _ _ _ rfl ((own3.alloc _).alloc _) ⟨wr.heap.size + 1, 0, none⟩ 1 1 [.int .i64 x0, .int .i64 x1, .int .i64 x2, .int .i64 x3] rfl rfl ?c1A ?c2A ?c3A ?c4A ?c5A ?_)
        case c1A => exact wr_new (by simp) _ _ _ _ _
        case c2A => exact four_one _ _ _ _
        case c3A => unfold maxLen; omega
        case c4A => omega
        case c5A => simp; omega
        intro v1 w8 own8 hg8 hnw8
        have B8 : Below w.heap.size w w8 := (ba.alloc (by simp; have := hb.size; omega) _).grown hg8 (by simp; have := hb.size; omega) (fun g hg => Nat.le_trans hb1 (own3.lt g hg).1)
        have S8 : w1.heap.size ≤ w8.heap.size := Nat.le_trans (by simp; omega) hg8.size
        have O8 : Hid (w8.ownsRow w1.heap.size 32 4 v1 (ofR (l.take (k + 1)) r).length (wrCells (ofR (l.take (k + 1)) r))) := by
          show World.ownsRow _ _ _ _ _ _ _
          rw [HE.out, wrCells_snoc, List.length_append]
          exact own8
        clear own8 hg8 hnw8 own3
        go_wp2
        go_roundw
        case rel => exact ⟨k + 1, by omega, by go_num, O8, B8, S8⟩
        case measure => simp [intOf]; omega
      · have HE : Hid (ofR (l.take (k + 1)) r = ofR (l.take k) r) := by show _ = _; rw [HN, if_neg hz]
        have hbq : (x1 == r) = false := by simpa using hz
        have O8 : Hid ((wr.alloc (.cells #[.int .i64 x0, .int .i64 x1, .int .i64 x2, .int .i64 x3] 32)).ownsRow w1.heap.size 32 4 (.slice vo (ofR (l.take k) r).length vk) (ofR (l.take (k + 1)) r).length (wrCells (ofR (l.take (k + 1)) r))) := by
          show World.ownsRow _ _ _ _ _ _ _
          rw [HE.out]
          exact HO.out.alloc _
        have S8 : w1.heap.size ≤ (wr.alloc (.cells #[.int .i64 x0, .int .i64 x1, .int .i64 x2, .int .i64 x3] 32)).heap.size := by simp; omega
        obtain ⟨L, hL⟩ : ∃ L, ofR (l.take k) r = L := ⟨_, rfl⟩
        rw [hL] at O8 ⊢
        clear HN hz HO hL
        go_wp2
        go_roundw
        case rel => exact ⟨k + 1, by omega, by go_num, O8, ba, S8⟩
        case measure => simp [intOf]; omega
    · obtain rfl : k = l.length := by omega
      have HS : Hid (Wrs wr (.slice vo (ofR (l.take l.length) r).length vk) (ofR l r)) := by
        have := evs_of_own HO.out
        rw [List.take_length] at this ⊢
        exact this
      obtain ⟨L, hL⟩ : ∃ L, ofR (l.take l.length) r = L := ⟨_, rfl⟩
      rw [hL] at HS ⊢
      clear HO HL hL
      go_wp2
      go_ret2
      exact ⟨_, rfl, HS.out, hb⟩
/-- Of does what the laws of traces ask of it. -/
theorem trc_of (G : World → Prop) : TrcOf G := fun l v r W _ hl => by
  by_cases h0 : evchk l = 0
  · by_cases hr : r < -1 ∨ 4 < r
    · have he : ofE l r = 1 := by unfold ofE; rw [if_pos h0, if_pos hr]
      unfold ofV
      rw [he]
      refine (tof_room l v r W hl h0 hr).mono ?_
      rintro e w' ⟨rfl, hb⟩
      exact ⟨_, rfl, Or.inl ⟨rfl, _, _, rfl⟩, hb⟩
    · have he : ofE l r = 0 := by unfold ofE; rw [if_pos h0, if_neg hr]
      unfold ofV
      rw [he, if_pos rfl]
      exact tof_ok l v r W hl h0 (by omega)
  · have he : ofE l r = evchk l := by unfold ofE; rw [if_neg h0]
    unfold ofV
    rw [he, if_neg h0]
    refine (tof_wrong l v r W hl h0).mono ?_
    rintro e w' ⟨rfl, hb⟩
    exact ⟨_, rfl, Or.inl ⟨rfl, _, _, rfl⟩, hb⟩
end Go.Proofs.YtfconbblnmbnpahGreatDoor
namespace Go.Proofs.YtfconbblnmbnpahGreatDoor
open Go.RowKit Go.Shelf
attribute [local go_sem] Oper.semAt_some

set_option maxRecDepth 1000000 in
set_option maxHeartbeats 8000000 in
theorem tparse_any (s : ByteArray) (w : World) (ht : Tabs2 w) (hl : s.size ≤ 140737488355328) :
    Calls Tryz.prog 20 #[.string s] w fun e w' => ∃ vv, e = .returned (.tuple #[vv, wErr (evP s.data.toList).2]) ∧ Wrs w' vv (evP s.data.toList).1 ∧ Below w.heap.size w w' := by
  obtain ⟨ii, hi, hz0, hz1, hz2⟩ := info_parts infoEv
  have hsl : s.data.toList.length = s.size := by simp
  refine (callsIn_wide (n := 4)).1 ?_
  refine callsIn_of_wp_marks Tryz.func20 rfl trivial ?_ rfl
  simp only [Tryz.ntmps20, List.size_toArray, List.length_cons, List.length_nil, Nat.reduceAdd, Nat.reduceSub, Array.replicate_succ, Array.replicate_zero, List.push_toArray, List.append_toArray, List.nil_append, List.cons_append]
  gi_wp2_with (refine ⟨trivial, ?_⟩; gi_at_call 47; refine (callsIn_wide.2 (lines_any s _)).mono ?_; rintro e w3 ⟨rfl, hw3⟩; subst hw3)
  obtain ⟨W0, hW0⟩ : ∃ W0, (((w.alloc (.cells #[.slice none 0 0] 27)).alloc (.cells #[.nilIface] 35)).alloc (.cells #[.slice none 0 0] 27)).alloc (.cells #[.string s] 9) = W0 := ⟨_, rfl⟩
  obtain ⟨z1, z2, z3, z4, bw0, _⟩ := four_boxes (w2 := W0) (w := w) (by rw [hW0]; exact Below.refl _ _)
  have hWs : W0.heap.size = w.heap.size + 4 := by rw [← hW0]; simp
  rw [hW0]
  clear hW0
  have z4' : Boxed W0 (w.heap.size + 1 + 1 + 1) 9 (encS s.data.toList) := z4
  refine wpIn_rangeState (P := Tryz.prog) 5 (Bi := w.heap.size + 1 + 1 + 1) (m := 1) rfl (by omega) (gf := 85) (lb := #[.pointer (some ⟨w.heap.size + 1 + 1 + 1, 0, none⟩)]) rfl trivial (enters_of Tryz.func85 (by kernel_rfl) rfl)
    (lines_givesN 140737488355328 (Nat.le_refl _) s.data.toList (w.heap.size + 1 + 1 + 1) W0 z4' (by omega)) (by omega) (by omega)
    (fun pre W => (∃ os vv, evsRd (pre.map (·.1)) = some os ∧ Boxed W (w.heap.size + 1 + 1) 27 vv ∧ W.ownsRow (w.heap.size + 4) 32 4 vv (os.take 2001).length (wrCells (os.take 2001))) ∧ (Boxed W w.heap.size 27 (.slice none 0 0) ∧ Boxed W (w.heap.size + 1) 35 .nilIface) ∧ ((Below w.heap.size w W ∧ w.heap.size ≤ W.heap.size) ∧ w.heap.size + 4 ≤ W.heap.size))
    (fun pre W => (∃ q p, pre.map (·.1) = q ++ [p] ∧ evRd p = none) ∧ (Boxed W w.heap.size 27 (.slice none 0 0) ∧ Boxed W (w.heap.size + 1) 35 (.iface 91 (.int .i64 2))) ∧ (Below w.heap.size w W ∧ w.heap.size ≤ W.heap.size))
    ?hI ?hIx ?h0 ?assign ?body ?done ?stop
  case hI =>
    refine Steady.and (fun s W W' row hs hg hr => ?_) (Steady.and (Steady.and (steady_boxed _ _ (fun _ => _) (by omega)) (steady_boxed _ _ (fun _ => _) (by omega))) (Steady.and (steady_below (by omega) (by omega)) (fun s W W' row hs hg hr => Nat.le_trans hs hg.size)))
    obtain ⟨os, vv, h1, h2, h3⟩ := hs
    exact ⟨os, vv, h1, steady_boxed (B := W0.heap.size) (w.heap.size + 1 + 1) 27 (fun (_ : Unit) => vv) (by omega) () W W' row h2 hg hr, own_steady h3 hg hr (by omega)⟩
  case hIx =>
    exact Steady.and (steady_pure _ _ _) (Steady.and (Steady.and (steady_boxed _ _ (fun _ => _) (by omega)) (steady_boxed _ _ (fun _ => _) (by omega))) (steady_below (by omega) (by omega)))
  case h0 => exact ⟨⟨[], _, rfl, z3, World.ownsRow_nil _ _ _ _⟩, ⟨z1, z2⟩, ⟨bw0, by omega⟩, by omega⟩
  case assign =>
    intro l x W K hK
    simp only [List.setIfInBounds_toArray, List.set_cons_zero, List.set_cons_succ] at hK
    gi_wp2
    exact hK
  case body =>
    rintro l pre x W ⟨⟨os, vv, hos, hbv, hown⟩, ⟨q1, q2⟩, ⟨hb, hb'⟩, hsz3⟩ hlen
    simp only [List.setIfInBounds_toArray, List.set_cons_zero, List.set_cons_succ]
    have hrd : Calls Tryz.prog 48 #[encS x.1] W fun e w' => e = .returned (evRes (evRd x.1)) ∧ Below W.heap.size W w' := by
      have := tread_any ⟨x.1.toArray⟩ W (ht.all hb) (by rw [ba_size']; exact x.2)
      rwa [show bl ⟨x.1.toArray⟩ = x.1 by unfold bl; simp] at this
    cases hx : evRd x.1 with
    | none =>
      rw [hx] at hrd
      have HX : Hid (evRd x.1 = none) := hx
      unfold evRes at hrd
      clear hx
      gi_wp2_with (refine ⟨trivial, ?_⟩; gi_at_call 48; refine (CallsIn.inRound l (callsIn_wide.2 hrd)).mono ?_; rintro e W2 ⟨rfl, b2⟩; have e1 := (b2.block _ q1.lt).trans q1; have e2 := (b2.block _ q2.lt).trans q2; have c1 := Boxed.cell e1; have c2 := Boxed.cell e2; have f1 := Boxed.frozen e1; have f2 := Boxed.frozen e2; have l1 := Boxed.lt e1; have l2 := Boxed.lt e2; clear hrd)
      have bW2 : Below w.heap.size w W2 := hb.trans (b2.mono hb')
      refine ⟨(keepsFrom_below b2).trans (((KeepsOthers.setCell _ _ _).trans ((KeepsOthers.setCell _ _ _).trans (KeepsOthers.alloc _ _))).from _), ⟨pre.map (·.1), x.1, by simp, HX.out⟩, ⟨?_, ?_⟩, ?_, ?_⟩
      · exact ((Boxed.set _ e1).other (by omega) _).alloc _
      · exact ((Boxed.other e2 (by omega) _).set _).alloc _
      · exact ((bW2.setCell (p := ⟨w.heap.size, 0, none⟩) (Nat.le_refl _) _).setCell (p := ⟨w.heap.size + 1, 0, none⟩) (by simp) _).alloc (by simp only [World.setCell, Array.size_modify]; exact Nat.le_trans hb' b2.size) _
      · simp only [World.size_alloc, World.setCell, Array.size_modify]; have := b2.size; omega
    | some o =>
      rw [hx] at hrd
      have HX : Hid (evsRd ((pre ++ [x]).map (·.1)) = some (os ++ [o])) := by show _ = _; rw [List.map_append]; exact evsRd_snoc _ os x.1 o hos hx
      unfold evRes at hrd
      simp only at hrd
      clear hx hos
      obtain ⟨T, hT⟩ : ∃ T, T = os.take 2001 := ⟨_, rfl⟩
      have hTl : T.length = min 2001 os.length := by rw [hT]; simp
      rw [← hT] at hown
      obtain ⟨ao, nn, cap, hvv⟩ : ∃ ao nn cap, vv = .slice ao nn cap := by
        rcases hown.2 with ⟨h, _⟩ | ⟨g, cap, cur, h, _⟩
        · exact ⟨_, _, _, h⟩
        · exact ⟨_, _, _, h⟩
      have hnn : nn = T.length := by
        rcases hown.2 with ⟨h, h0⟩ | ⟨g, cap', cur, h, _⟩
        · rw [hvv] at h; cases h; exact h0.symm
        · rw [hvv] at h; cases h; rfl
      subst hvv
      by_cases hge : 2000 < os.length
      · have hnn' : ¬ (nn : Int) ≤ 2000 := by omega
        have HT : Hid ((os ++ [o]).take 2001 = T) := by show _ = _; rw [hT]; exact ev_take_ge hge
        clear hnn hge hTl hT
        gi_wp2_with (refine ⟨trivial, ?_⟩; gi_at_call 48; refine (CallsIn.inRound l (callsIn_wide.2 hrd)).mono ?_; rintro e W2 ⟨rfl, b2⟩; have gv := (b2.block _ hbv.lt).trans hbv; have cv := Boxed.cell gv; have lv := Boxed.lt gv; clear hrd)
        have b2' : Below W.heap.size W (W2.alloc (.cells #[.int .i64 o.1, .int .i64 o.2.1, .int .i64 o.2.2.1, .int .i64 o.2.2.2] 32)) := b2.alloc b2.size _
        exact ⟨keepsFrom_below b2', fun j hj0 hj1 => b2'.block j (by omega), ⟨os ++ [o], _, HX.out, (b2'.block _ hbv.lt).trans hbv, by rw [HT.out]; exact own_all hown b2'⟩, ⟨(b2'.block _ q1.lt).trans q1, (b2'.block _ q2.lt).trans q2⟩, ⟨hb.trans (b2'.mono hb'), Nat.le_trans hb' b2'.size⟩, Nat.le_trans hsz3 b2'.size⟩
      · have hnn' : (nn : Int) ≤ 2000 := by omega
        have HT : Hid ((os ++ [o]).take 2001 = T ++ [o]) := by show _ = _; rw [hT]; exact ev_take_lt (by omega)
        have hnl : T.length ≤ 2000 := by omega
        clear hnn hge hTl hT
        gi_wp2_with (first | (refine ⟨trivial, ?_⟩; gi_at_call 48; refine (CallsIn.inRound l (callsIn_wide.2 hrd)).mono ?_; rintro e W2 ⟨rfl, b2⟩; have gv := (b2.block _ hbv.lt).trans hbv; have cv := Boxed.cell gv; have lv := Boxed.lt gv; have fv := Boxed.frozen gv; have hown2 := own_all hown b2; have hs2 := b2.size; clear hrd hown) | (gi_at_builtin; refine wpListIn_append_own _ rfl _ _ 27 rfl (w.heap.size + 4) 32 ii (.agg #[.int .i64 0, .int .i64 0, .int .i64 0, .int .i64 0]) 4 32 Tryz.underlying27 hi hz0 hz1 hz2 rfl (by decide) _ _ _ rfl ((hown2.alloc _).alloc _) ⟨W2.heap.size + 1, 0, none⟩ 1 1 [.int .i64 o.1, .int .i64 o.2.1, .int .i64 o.2.2.1, .int .i64 o.2.2.2] rfl rfl (wr_new (by simp) _ _ _ _ _) (four_one _ _ _ _) (by unfold maxLen; omega) (by omega) (by simp; omega) ?_; intro v' w1 hown' hgrow _; obtain ⟨g', cap', rfl⟩ := ownsRow_succ hown'; have hv1 := Boxed.kept (Boxed.alloc (Boxed.alloc gv _) _) hgrow (Boxed.not_row gv (by decide) hown2); have cv1 := hv1.cell; have fv1 := hv1.frozen))
        have b2' : Below W.heap.size W (W2.alloc (.cells #[.int .i64 o.1, .int .i64 o.2.1, .int .i64 o.2.2.1, .int .i64 o.2.2.2] 32)) := b2.alloc b2.size _
        obtain ⟨r1, r2, r3, r4, r5, r6⟩ := app_step b2' (show w.heap.size + 1 + 1 < w.heap.size + 4 by omega) hsz3 (Boxed.alloc gv _) (by decide) (hown2.alloc _) hown' hgrow
        refine ⟨r1.from _, fun j hj0 hj1 => r2 j (by omega) (by omega), ⟨os ++ [o], _, HX.out, r3, by rw [HT.out, List.length_append, wrCells_snoc]; exact r4⟩, ⟨(r2 _ (by omega) (by omega)).trans q1, (r2 _ (by omega) (by omega)).trans q2⟩, ⟨hb.trans (r5.mono (by omega)), by omega⟩, by omega⟩
  case done =>
    rintro D xs W hD hxs ⟨⟨os, vv, hos, hbv, hown⟩, ⟨q1, q2⟩, ⟨hb, hb'⟩, hsz3⟩ hK
    rw [hxs] at hos
    have hops := evs_of_own hown
    have hck := evcheck_any _ vv W hops
    obtain ⟨ao, cap, hvv⟩ := hops.form
    subst hvv
    have cv := hbv.cell
    have c1 := q1.cell
    have c2 := q2.cell
    have f1 := q1.frozen
    have f2 := q2.frozen
    rw [evchk_take] at hck
    clear c1 c2 f1 f2
    by_cases h0 : (evchk os) = 0
    · have HP : Hid (evP s.data.toList = (os, 0)) := by
        show _ = _
        rw [evP_byline, hos]
        exact evR_ok h0
      have HT : Hid (os.take 2001 = os) := ev_take_ok h0
      rw [h0, show wErr 0 = .nilIface from rfl] at hck
      obtain ⟨T, hT⟩ : ∃ T, T = os.take 2001 := ⟨_, rfl⟩
      rw [← hT] at hck hops cv hown hbv
      have HT2 : Hid (T = os) := hT.trans HT.out
      clear hos h0 hT
      gi_wp2_with (refine ⟨trivial, ?_⟩; gi_at_call 40; refine (callsIn_wide.2 hck).mono ?_; rintro e W2 ⟨rfl, b2⟩; have e1 := (b2.block _ q1.lt).trans q1; have e2 := (b2.block _ q2.lt).trans q2; have ev := (b2.block _ hbv.lt).trans hbv; have c1 := Boxed.cell e1; have c2 := Boxed.cell e2; have f1 := Boxed.frozen e1; have f2 := Boxed.frozen e2; have c3 := Boxed.cell ev; clear hck)
      obtain ⟨W4, hW4⟩ : ∃ W4, (W2.setCell ⟨w.heap.size, 0, none⟩ (.slice ao T.length cap)).setCell ⟨w.heap.size + 1, 0, none⟩ .nilIface = W4 := ⟨_, rfl⟩
      rw [hW4]
      have hK2 : W2.heap[D]? = some (.deferred (some [])) := (b2.block _ (Array.getElem?_eq_some_iff.1 hK).1).trans hK
      have p1 : Boxed W4 w.heap.size 27 (.slice ao T.length cap) := by rw [← hW4]; exact (Boxed.set _ e1).other (by omega) _
      have p2 : Boxed W4 (w.heap.size + 1) 35 .nilIface := by rw [← hW4]; exact (Boxed.other e2 (by omega) _).set _
      have pK : W4.heap[D]? = some (.deferred (some [])) := by rw [← hW4]; exact ((KeepsOthers.setCell _ _ _).trans (KeepsOthers.setCell _ _ _)).same D _ hK2 rfl
      have pb : Below w.heap.size w W4 := by rw [← hW4]; exact ((hb.trans (b2.mono hb')).setCell (p := ⟨w.heap.size, 0, none⟩) (Nat.le_refl _) _).setCell (p := ⟨w.heap.size + 1, 0, none⟩) (by simp) _
      have po : W4.ownsRow (w.heap.size + 4) 32 4 (.slice ao T.length cap) T.length (wrCells T) := by
        rw [← hW4]
        exact ownsRow_setCell_below (ownsRow_setCell_below (own_all hown b2) (by simp) _) (by simp) _
      clear hW4
      have u1 := Boxed.kept p1 (grownBy_putObj' W4 D (.deferred none)) (fun e => by cases e; omega)
      have u2 := Boxed.kept p2 (grownBy_putObj' W4 D (.deferred none)) (fun e => by cases e; omega)
      have d1 := u1.cell
      have d2 := u2.cell
      refine ⟨by simp, .inl ⟨_, _, rfl, run_takeDeferred pK, ?_⟩⟩
      refine ⟨.tuple #[.slice ao T.length cap, .nilIface], ?_, .slice ao T.length cap, ?_, ?_, ?_⟩
      · simp [results, Tryz.results20, go_sem, d1, d2]
      · rw [HP.out]; rfl
      · rw [HP.out, ← HT2.out]; exact evs_of_own (ownsRow_putObj po _ pK rfl)
      · exact pb.trans (belowK_b (w := w) (Nat.le_refl _) W4 D _ _ (by omega) pK rfl rfl)
    · have HP : Hid (evP s.data.toList = ([], evchk os)) := by
        show _ = _
        rw [evP_byline, hos]
        exact evR_err h0
      have HE : Hid (wErr (evchk os) = .iface 91 (.int .i64 (evchk os))) := wErr_not h0
      rw [HE.out] at hck
      obtain ⟨T, hT⟩ : ∃ T, T = os.take 2001 := ⟨_, rfl⟩
      rw [← hT] at hck hops cv hown hbv
      clear hos h0 hT
      gi_wp2_with (refine ⟨trivial, ?_⟩; gi_at_call 40; refine (callsIn_wide.2 hck).mono ?_; rintro e W2 ⟨rfl, b2⟩; have e1 := (b2.block _ q1.lt).trans q1; have e2 := (b2.block _ q2.lt).trans q2; have c1 := Boxed.cell e1; have c2 := Boxed.cell e2; have f1 := Boxed.frozen e1; have f2 := Boxed.frozen e2; clear hck)
      obtain ⟨W4, hW4⟩ : ∃ W4, (W2.setCell ⟨w.heap.size, 0, none⟩ (.slice none 0 0)).setCell ⟨w.heap.size + 1, 0, none⟩ (.iface 91 (.int .i64 (evchk os))) = W4 := ⟨_, rfl⟩
      rw [hW4]
      have hK2 : W2.heap[D]? = some (.deferred (some [])) := (b2.block _ (Array.getElem?_eq_some_iff.1 hK).1).trans hK
      have p1 : Boxed W4 w.heap.size 27 (.slice none 0 0) := by rw [← hW4]; exact (Boxed.set _ e1).other (by omega) _
      have p2 : Boxed W4 (w.heap.size + 1) 35 (.iface 91 (.int .i64 (evchk os))) := by rw [← hW4]; exact (Boxed.other e2 (by omega) _).set _
      have pK : W4.heap[D]? = some (.deferred (some [])) := by rw [← hW4]; exact ((KeepsOthers.setCell _ _ _).trans (KeepsOthers.setCell _ _ _)).same D _ hK2 rfl
      have pb : Below w.heap.size w W4 := by rw [← hW4]; exact ((hb.trans (b2.mono hb')).setCell (p := ⟨w.heap.size, 0, none⟩) (Nat.le_refl _) _).setCell (p := ⟨w.heap.size + 1, 0, none⟩) (by simp) _
      clear hW4
      have u1 := Boxed.kept p1 (grownBy_putObj' W4 D (.deferred none)) (fun e => by cases e; omega)
      have u2 := Boxed.kept p2 (grownBy_putObj' W4 D (.deferred none)) (fun e => by cases e; omega)
      have d1 := u1.cell
      have d2 := u2.cell
      refine ⟨by simp, .inl ⟨_, _, rfl, run_takeDeferred pK, ?_⟩⟩
      refine ⟨.tuple #[.slice none 0 0, .iface 91 (.int .i64 (evchk os))], ?_, .slice none 0 0, ?_, ?_, ?_⟩
      · simp [results, Tryz.results20, go_sem, d1, d2]
      · rw [HP.out]; simp only; rw [HE.out]
      · rw [HP.out]; exact Or.inl ⟨rfl, _, _, rfl⟩
      · exact pb.trans (belowK_b (w := w) (Nat.le_refl _) W4 D _ _ (by omega) pK rfl rfl)
  case stop =>
    rintro D pre W hD hpre ⟨⟨q, p, hpq, hp⟩, ⟨q1, q2⟩, hb, hb'⟩ hK
    have c1 := q1.cell
    have c2 := q2.cell
    have HN : Hid (evP s.data.toList = ([], 2)) := by
      obtain ⟨r, hr⟩ := hpre
      show _ = _
      rw [evP_byline, ← hr, hpq, List.append_assoc, List.singleton_append, evsRd_bad hp]
      rfl
    clear hp hpre hpq
    gi_wp2
    have u1 := Boxed.kept q1 (grownBy_putObj' W D (.deferred none)) (fun e => by cases e; omega)
    have u2 := Boxed.kept q2 (grownBy_putObj' W D (.deferred none)) (fun e => by cases e; omega)
    have d1 := u1.cell
    have d2 := u2.cell
    refine ⟨by simp, .inl ⟨_, _, rfl, run_takeDeferred hK, ?_⟩⟩
    refine ⟨.tuple #[.slice none 0 0, .iface 91 (.int .i64 2)], ?_, .slice none 0 0, ?_, ?_, ?_⟩
    · simp [results, Tryz.results20, go_sem, d1, d2]
    · rw [HN.out]; rfl
    · rw [HN.out]; exact Or.inl ⟨rfl, _, _, rfl⟩
    · exact hb.trans (belowK_b (w := w) (Nat.le_refl _) W D _ _ (by omega) hK rfl rfl)
/-- Parse does what the laws of traces ask of it. -/
theorem trc_parse {G : World → Prop} (hT : ∀ w, G w → Tabs2 w) : TrcParse G := fun t W hG ht => tparse_any t W (hT W hG) ht
end Go.Proofs.YtfconbblnmbnpahGreatDoor

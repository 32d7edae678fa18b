/-
  frame.Shares: how many ticks of a frame each room has.
-/
import Derived.Test.YtmlkfmiaaaienabDoorFWho
namespace Go.Proofs.YtmlkfmiaaaienabDoor
open Go.RowKit

/-- Five numbers lie in a block of their own. -/
def Five (w : World) (b : Nat) (c : Nat → Int) : Prop := (w.cell? ⟨b, 0, none⟩ = some (.int .i64 (c 0)) ∧ w.cell? ⟨b, 1, none⟩ = some (.int .i64 (c 1)) ∧ w.cell? ⟨b, 2, none⟩ = some (.int .i64 (c 2)) ∧ w.cell? ⟨b, 3, none⟩ = some (.int .i64 (c 3)) ∧ w.cell? ⟨b, 4, none⟩ = some (.int .i64 (c 4))) ∧ (w.frozen? ⟨b, 0, none⟩ = false ∧ w.frozen? ⟨b, 1, none⟩ = false ∧ w.frozen? ⟨b, 2, none⟩ = false ∧ w.frozen? ⟨b, 3, none⟩ = false ∧ w.frozen? ⟨b, 4, none⟩ = false)
theorem Five.keep {w w' : World} {b B : Nat} {c : Nat → Int} (h : Five w b c) (hb : Below B w w') (hlt : b < B) : Five w' b c := by
  have hc : ∀ o, w'.cell? ⟨b, o, none⟩ = w.cell? ⟨b, o, none⟩ := fun o => hb.cell (p := ⟨b, o, none⟩) hlt
  have hf : ∀ o, w'.frozen? ⟨b, o, none⟩ = w.frozen? ⟨b, o, none⟩ := fun o => hb.frozen (p := ⟨b, o, none⟩) hlt
  unfold Five
  simp only [hc, hf]
  exact h
theorem Five.put {w : World} {b : Nat} {c c' : Nat → Int} (h : Five w b c) (k : Nat) (hk : k < 5) (h' : ∀ i, i < 5 → c' i = if i = k then c k + 1 else c i) : Five (w.setCell ⟨b, k, none⟩ (.int .i64 (c k + 1))) b c' := by
  obtain ⟨⟨k0, k1, k2, k3, k4⟩, j0, j1, j2, j3, j4⟩ := h
  have e0 := h' 0 (by omega)
  have e1 := h' 1 (by omega)
  have e2 := h' 2 (by omega)
  have e3 := h' 3 (by omega)
  have e4 := h' 4 (by omega)
  unfold Five
  rw [e0, e1, e2, e3, e4]
  match k, hk with
  | 0, _ | 1, _ | 2, _ | 3, _ | 4, _ =>
    refine ⟨⟨?_, ?_, ?_, ?_, ?_⟩, ?_, ?_, ?_, ?_, ?_⟩ <;> simp [go_sem, k0, k1, k2, k3, k4, j0, j1, j2, j3, j4]
/-- The shares. -/
def shr (l : List S3) (t : Nat) (r : Nat) : Int := (cnt (fun t => hold l (t : Int)) (r : Int) t : Nat)
theorem shr_up {l : List S3} {t k : Nat} (h : hold l (t : Int) = (k : Int)) : ∀ i, i < 5 → shr l (t + 1) i = if i = k then shr l t k + 1 else shr l t i := fun i _ => by
  unfold shr
  by_cases hi : i = k
  · subst hi
    rw [if_pos rfl, cnt_up h]
    omega
  · rw [if_neg hi, cnt_same (by rw [h]; omega)]
theorem shr_none {l : List S3} {t : Nat} (h : hold l (t : Int) = -1) : ∀ i, shr l (t + 1) i = shr l t i := fun i => by
  unfold shr
  rw [cnt_same (by rw [h]; omega)]
set_option maxRecDepth 100000 in
set_option maxHeartbeats 4000000 in
theorem shares_bad (n : Int) (v : Value) (k e : Int) (w : World) (he : e ≠ 0)
    (hk : Calls Tryd.prog 9 #[.int .i64 n, v] w fun ev w' => ev = .returned (.tuple #[.int .i64 k, fErr e]) ∧ Below w.heap.size w w') :
    Calls Tryd.prog 13 #[.int .i64 n, v] w fun ev w' => ev = .returned (.tuple #[.slice none 0 0, fErr e]) ∧ Below w.heap.size w w' := by
  rw [fErr_not he] at hk ⊢
  go_enter Tryd.func13, Tryd.ntmps13
  go_wp2_with (go_at_call 9; refine hk.mono ?_; rintro ev w1 ⟨rfl, b1⟩; clear hk)
  go_ret2
  exact ⟨rfl, b1⟩
theorem infoI : (Tryd.prog.info? 3).map (fun i => (i.zero, i.size, i.bytes)) = some (some (.int .i64 0), 1, 8) := by kernel_rfl
theorem five_made {w : World} {base b : Nat} (h : w.ownsRow base 3 1 (.slice (some ⟨b, 0, none⟩) 5 5) 5 (madeCells (Value.int .i64 0).cells (5 * 1)).toList) : Five w b (fun _ => 0) := by
  have hc := fun j hj => h.cellAt j hj
  have hf := fun j => h.frozenAt j
  refine ⟨⟨?_, ?_, ?_, ?_, ?_⟩, hf 0, hf 1, hf 2, hf 3, hf 4⟩
  · rw [hc 0 (by omega)]; simp [madeCells, Value.cells]
  · rw [hc 1 (by omega)]; simp [madeCells, Value.cells]
  · rw [hc 2 (by omega)]; simp [madeCells, Value.cells]
  · rw [hc 3 (by omega)]; simp [madeCells, Value.cells]
  · rw [hc 4 (by omega)]; simp [madeCells, Value.cells]
theorem shr_zero (l : List S3) : shr l 0 = fun _ => 0 := by funext r; simp [shr, cnt]
theorem shr_range (l : List S3) (t r : Nat) : 0 ≤ shr l t r ∧ shr l t r ≤ t := by
  have := cnt_le (fun t => hold l (t : Int)) (r : Int) t
  unfold shr
  omega
set_option maxRecDepth 100000 in
set_option maxHeartbeats 4000000 in
theorem shares_good (n : Nat) (l : List S3) (v : Value) (k : Int) (w : World) (hl : Sps w v l) (hlen : l.length ≤ 12) (hn1 : n ≤ 40) (hr : ∀ t, -1 ≤ hold l t ∧ hold l t < 5)
    (hk : Calls Tryd.prog 9 #[.int .i64 n, v] w fun ev w' => ev = .returned (.tuple #[.int .i64 k, .nilIface]) ∧ Below w.heap.size w w') :
    Calls Tryd.prog 13 #[.int .i64 n, v] w fun ev w' => ∃ ob, ev = .returned (.tuple #[.slice (some ⟨ob, 0, none⟩) 5 5, .nilIface]) ∧ w.heap.size ≤ ob ∧ ob < w'.heap.size ∧ Five w' ob (shr l n) ∧ Below w.heap.size w w' := by
  obtain ⟨ii, hi, hz0, hz1, hz2⟩ := info_parts infoI
  have HH : Hid (∀ (t : Int) W, Below w.heap.size w W → Calls Tryd.prog 25 #[v, .int .i64 t] W fun e w' => e = .returned (.int .i64 (hold l t)) ∧ Below W.heap.size W w') := fun t W hb => holder_any l v t W (hl.all hb) hlen
  have HR : Hid (∀ t, -1 ≤ hold l t ∧ hold l t < 5) := hr
  clear hl hr
  go_enter Tryd.func13, Tryd.ntmps13
  go_wp2_with (first | (go_at_call 9; refine hk.mono ?_; rintro ev w1 ⟨rfl, b1⟩; clear hk; have hs1 := b1.size) | (at_make; refine wpList_make_full _ rfl _ _ 42 rfl w.heap.size 3 ii (.int .i64 0) 1 Tryd.underlying42 hi hz0 hz1 .i64 .i64 _ _ 5 rfl rfl rfl rfl (by rw [hz2]; omega) (by unfold maxLen; omega) hs1 ?_; intro w0 hown0 hgrow0))
  have hb0 : Below w.heap.size w w0 := b1.grown hgrow0 hs1 (fun k e => by cases e)
  have h5 : Five w0 w1.heap.size (shr l 0) := by rw [shr_zero]; exact five_made hown0
  have hlt0 : w1.heap.size < w0.heap.size := (hown0.lt w1.heap.size rfl).2
  clear hown0 hgrow0 b1
  go_wp2
  go_loopw [22] (fun i wr => ∃ t : Nat, t ≤ n ∧ i = .int .i64 t ∧ Five wr w1.heap.size (shr l t) ∧ w1.heap.size < wr.heap.size ∧ Below w.heap.size w wr) (fun i _ => n - (intOf i).toNat)
  case atStart => exact ⟨0, Nat.zero_le _, rfl, h5, hlt0, hb0⟩
  case round =>
    obtain ⟨t, ht, rfl, hf, hlt, hb⟩ := hrel
    clear h5 hlt0 hb0
    have HV : Hid (Five wr w1.heap.size (shr l t)) := hf
    clear hf
    by_cases htn : t < n
    · have hti : (t : Int) < (n : Int) := by omega
      have hh := HH.out (t : Int) wr hb
      have hq := HR.out (t : Int)
      obtain ⟨q, hqe⟩ : ∃ q, q = hold l (t : Int) := ⟨_, rfl⟩
      rw [← hqe] at hh hq
      have HQ : Hid (q = hold l (t : Int)) := hqe
      clear hqe
      have r0 := shr_range l t 0
      have r1 := shr_range l t 1
      have r2 := shr_range l t 2
      have r3 := shr_range l t 3
      have r4 := shr_range l t 4
      have h6 : q = -1 ∨ q = 0 ∨ q = 1 ∨ q = 2 ∨ q = 3 ∨ q = 4 := by omega
      clear hq
      rcases h6 with rfl | rfl | rfl | rfl | rfl | rfl
      · go_wp2_with (go_at_call 25; refine hh.mono ?_; rintro e w2 ⟨rfl, b2⟩; clear hh)
        go_roundw
        case rel => exact ⟨t + 1, by omega, by go_num, by rw [show shr l (t + 1) = shr l t from funext (shr_none HQ.out.symm)]; exact HV.out.keep b2 hlt, Nat.lt_of_lt_of_le hlt b2.size, hb.trans (b2.mono hb.size)⟩
        case measure => simp [intOf]; omega
      · go_wp2_with (go_at_call 25; refine hh.mono ?_; rintro e w2 ⟨rfl, b2⟩; clear hh; have hv2 := HV.out.keep b2 hlt; have HV2 : Hid (Five w2 w1.heap.size (shr l t)) := hv2; obtain ⟨⟨k0, k1, k2, k3, k4⟩, j0, j1, j2, j3, j4⟩ := hv2)
        go_roundw
        case rel => exact ⟨t + 1, by omega, by go_num, HV2.out.put 0 (by omega) (shr_up HQ.out.symm), by simpa using Nat.lt_of_lt_of_le hlt b2.size, (hb.trans (b2.mono hb.size)).setCell (p := ⟨w1.heap.size, 0, none⟩) hs1 _⟩
        case measure => simp [intOf]; omega
      · go_wp2_with (go_at_call 25; refine hh.mono ?_; rintro e w2 ⟨rfl, b2⟩; clear hh; have hv2 := HV.out.keep b2 hlt; have HV2 : Hid (Five w2 w1.heap.size (shr l t)) := hv2; obtain ⟨⟨k0, k1, k2, k3, k4⟩, j0, j1, j2, j3, j4⟩ := hv2)
        go_roundw
        case rel => exact ⟨t + 1, by omega, by go_num, HV2.out.put 1 (by omega) (shr_up HQ.out.symm), by simpa using Nat.lt_of_lt_of_le hlt b2.size, (hb.trans (b2.mono hb.size)).setCell (p := ⟨w1.heap.size, 1, none⟩) hs1 _⟩
        case measure => simp [intOf]; omega
      · go_wp2_with (go_at_call 25; refine hh.mono ?_; rintro e w2 ⟨rfl, b2⟩; clear hh; have hv2 := HV.out.keep b2 hlt; have HV2 : Hid (Five w2 w1.heap.size (shr l t)) := hv2; obtain ⟨⟨k0, k1, k2, k3, k4⟩, j0, j1, j2, j3, j4⟩ := hv2)
        go_roundw
        case rel => exact ⟨t + 1, by omega, by go_num, HV2.out.put 2 (by omega) (shr_up HQ.out.symm), by simpa using Nat.lt_of_lt_of_le hlt b2.size, (hb.trans (b2.mono hb.size)).setCell (p := ⟨w1.heap.size, 2, none⟩) hs1 _⟩
        case measure => simp [intOf]; omega
      · go_wp2_with (go_at_call 25; refine hh.mono ?_; rintro e w2 ⟨rfl, b2⟩; clear hh; have hv2 := HV.out.keep b2 hlt; have HV2 : Hid (Five w2 w1.heap.size (shr l t)) := hv2; obtain ⟨⟨k0, k1, k2, k3, k4⟩, j0, j1, j2, j3, j4⟩ := hv2)
        go_roundw
        case rel => exact ⟨t + 1, by omega, by go_num, HV2.out.put 3 (by omega) (shr_up HQ.out.symm), by simpa using Nat.lt_of_lt_of_le hlt b2.size, (hb.trans (b2.mono hb.size)).setCell (p := ⟨w1.heap.size, 3, none⟩) hs1 _⟩
        case measure => simp [intOf]; omega
      · go_wp2_with (go_at_call 25; refine hh.mono ?_; rintro e w2 ⟨rfl, b2⟩; clear hh; have hv2 := HV.out.keep b2 hlt; have HV2 : Hid (Five w2 w1.heap.size (shr l t)) := hv2; obtain ⟨⟨k0, k1, k2, k3, k4⟩, j0, j1, j2, j3, j4⟩ := hv2)
        go_roundw
        case rel => exact ⟨t + 1, by omega, by go_num, HV2.out.put 4 (by omega) (shr_up HQ.out.symm), by simpa using Nat.lt_of_lt_of_le hlt b2.size, (hb.trans (b2.mono hb.size)).setCell (p := ⟨w1.heap.size, 4, none⟩) hs1 _⟩
        case measure => simp [intOf]; omega
    · obtain rfl : t = n := by omega
      go_wp2
      go_ret2
      exact ⟨_, rfl, hs1, hlt, HV.out, hb⟩
theorem shares_any (n : Int) (l : List S3) (v : Value) (w : World) (hl : Sps w v l) :
    Calls Tryd.prog 13 #[.int .i64 n, v] w fun ev w' => (((fchk n l).2 ≠ 0 ∧ ev = .returned (.tuple #[.slice none 0 0, fErr (fchk n l).2])) ∨
      ((fchk n l).2 = 0 ∧ ∃ ob, ev = .returned (.tuple #[.slice (some ⟨ob, 0, none⟩) 5 5, .nilIface]) ∧ w.heap.size ≤ ob ∧ ob < w'.heap.size ∧ Five w' ob (shr l n.toNat))) ∧ Below w.heap.size w w' := by
  have hk := fcheck_any n l v w hl
  by_cases h : (fchk n l).2 = 0
  · obtain ⟨h1, h2, h3, h4, _⟩ := fchk_zero h
    rw [h] at hk
    obtain ⟨m, rfl⟩ : ∃ m : Nat, n = m := ⟨n.toNat, by omega⟩
    refine (shares_good m l v _ w hl h3 (by omega) (fun t => hold_range h4) hk).mono fun ev w' ⟨ob, he, ho1, ho2, h5, hb⟩ => ⟨Or.inr ⟨h, ob, he, ho1, ho2, ?_⟩, hb⟩
    rw [Int.toNat_natCast]
    exact h5
  · exact (shares_bad n v _ _ w h hk).mono fun ev w' ⟨he, hb⟩ => ⟨Or.inl ⟨h, he⟩, hb⟩
end Go.Proofs.YtmlkfmiaaaienabDoor

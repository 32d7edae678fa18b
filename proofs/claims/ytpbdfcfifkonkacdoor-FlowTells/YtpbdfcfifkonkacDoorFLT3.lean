/-
  The law FlowTells: wires that are right, a second room that is none.
-/
import Derived.Test.YtpbdfcfifkonkacDoorFLTW
namespace Go.Proofs.YtpbdfcfifkonkacDoor
open Go.RowKit

set_option maxRecDepth 100000 in
set_option maxHeartbeats 8000000 in
theorem tells_out (l : List W4) (v u : Value) (lv : List Int) (a b : Int) (w : World) (hg : ErrT w) (hl : Wrs w v l) (hu : Stp w u lv) (h : (wschk l).2 = 0) (hb : ¬ (0 ≤ b ∧ b < 5)) :
    Calls Tryd.prog 4 #[v, .int .i64 a, .int .i64 b, u] w fun e w' => e = .returned (.bool true) ∧ Below w.heap.size w w' := by
  obtain ⟨ii, hi, hz0, hz1, hz2⟩ := info_parts infoInt
  have hw := refwires_any l v w hl
  have hk := wschk_ok h
  rw [h] at hw
  have HC : Hid (∀ W, Below w.heap.size w W → Calls Tryd.prog 17 #[v] W fun e w' => e = .returned (.tuple #[.int .i64 (wschk l).1, .nilIface]) ∧ Below W.heap.size W w') := fun W hq => by
    have := flcheck_any l v W (hl.all hq)
    rw [h, show wErr 0 = .nilIface from rfl] at this
    exact this
  have HX : Hid (∀ W, Below w.heap.size w W → Calls Tryd.prog 6 #[.nilIface, .int .i64 0] W fun e w' => e = .returned (.bool true) ∧ Below W.heap.size W w') := fun W hq => error_nil W (hg.all hq)
  have HXe : Hid (∀ (q : Int) W, q ≠ 0 → Below w.heap.size w W → Calls Tryd.prog 6 #[.iface 61 (.int .i64 q), .int .i64 q] W fun e w' => e = .returned (.bool true) ∧ Below W.heap.size W w') := fun q W h0 hq => error_it h0 W (hg.all hq)
  have HA : Hid (∀ W, Below w.heap.size w W → Calls Tryd.prog 20 #[v, .int .i64 b] W fun e w' => e = .returned (.tuple #[.slice none 0 0, .iface 61 (.int .i64 1)]) ∧ Below W.heap.size W w') := fun W hq => ahead_out l v b W (hl.all hq) h hb
  have HI : Hid (∀ W, Calls Tryd.prog 21 #[.slice none 0 0, .slice none 0 0] W fun e w' => e = .returned (.bool true) ∧ Below W.heap.size W w') := fun W => wints_nil none none 0 0 W
  have hab : ¬ ((0 ≤ a ∧ a < 5) ∧ (0 ≤ (b : Int) ∧ (b : Int) < 5)) := fun hh => hb hh.2
  have HR : Hid (∀ W, Below w.heap.size w W → Calls Tryd.prog 19 #[v, .int .i64 a, .int .i64 b] W fun e w' => e = .returned (.tuple #[.bool false, .iface 61 (.int .i64 1)]) ∧ Below W.heap.size W w') := fun W hq => reach_out l v a b W (hl.all hq) h hab
  have HV : Hid (∀ W, Below w.heap.size w W → Calls Tryd.prog 22 #[v, u] W fun e w' => e = .returned (wErr (lvE l lv)) ∧ Below W.heap.size W w') := fun W hq => levels_any l lv v u W (hl.all hq) (hu.every hq)
  have HK : Hid (∀ x ∈ l, w4chk x = 0) := hk.2
  have hlen := hk.1
  have HL : Hid (Wrs w v l) := hl
  have HU : Hid (Stp w u lv) := hu
  have HO : Hid (lv.length = 5 → (∀ (j : Nat) y, j < l.length → l[j]? = some y → dwn lv y = false) → lvE l lv = 0) := fun h5 => lvE_ok h h5
  have HD : Hid (lv.length = 5 → ∀ x ∈ l, dwn lv x = true → lvE l lv = 8) := fun h5 x hx => lvE_down h h5 hx
  have HS : Hid (lv.length ≠ 5 → lvE l lv = 3) := fun h5 => lvE_shape h h5
  obtain ⟨ao, cap, rfl⟩ := hl.form
  obtain ⟨lo, lc, rfl⟩ := hu.form
  generalize (wschk l).1 = p at *
  clear hl hu hg h hk
  go_enter Tryd.func4, Tryd.ntmps4
  go_upto_region 5 with (first
    | (go_at_call 16; refine hw.mono ?_; rintro e w1 ⟨rfl, B1⟩; clear hw; have q2 := HC.out w1 B1; clear HC)
    | (go_at_call 17; refine q2.mono ?_; rintro e w2 ⟨rfl, b2⟩; clear q2; have B2 := B1.trans (b2.mono B1.size); clear b2; have q3 := HX.out w2 B2)
    | (go_at_call 6; refine q3.mono ?_; rintro e w3 ⟨rfl, b3⟩; clear q3; have B3 := B2.trans (b3.mono B2.size); clear b3; have q4 := HR.out w3 B3))
  go_cut [62] from 27 to 179 (fun s62 wx => s62 = .bool true ∧ wx = w3)
  case first =>
    by_cases a1 : a < 0
    · go_wp2
      go_meet
      exact ⟨rfl, rfl⟩
    · have a1' : decide (a < 0) = false := by simpa using a1
      by_cases a2 : 4 < a
      · go_wp2
        go_meet
        exact ⟨rfl, rfl⟩
      · have a2' : decide (4 < a) = false := by simpa using a2
        by_cases b1 : b < 0
        · go_wp2
          go_meet
          exact ⟨rfl, rfl⟩
        · have b1' : decide (b < 0) = false := by simpa using b1
          have b2 : 4 < b := by omega
          go_wp2
          go_meet
          exact ⟨rfl, rfl⟩
  case rest =>
  obtain ⟨rfl, hwc⟩ := hcut
  rw [hwc]
  clear hwc
  go_upto_region 14 with (first
    | (go_at_call 19; refine q4.mono ?_; rintro e w5 ⟨rfl, b5⟩; clear q4; have B5 := B3.trans (b5.mono B3.size); clear b5; have q6 := HXe.out 1 w5 (by decide) B5)
    | (go_at_call 6; refine q6.mono ?_; rintro e w6 ⟨rfl, b6⟩; clear q6; have B6 := B5.trans (b6.mono B5.size); clear b6))
  go_cut [97] from 27 to 179 (fun s97 wx => s97 = .bool true ∧ wx = w6)
  case first =>
    by_cases b1 : b < 0
    · go_wp2
      go_meet
      exact ⟨rfl, rfl⟩
    · have b1' : decide (b < 0) = false := by simpa using b1
      have b2 : 4 < b := by omega
      go_wp2
      go_meet
      exact ⟨rfl, rfl⟩
  case rest =>
  obtain ⟨rfl, hwc⟩ := hcut
  rw [hwc]
  clear hwc
  go_wp2
  refine wp_loop_rounds 1 ?_
  rw [rounds_succ]
  have q7 := HA.out w6 B6
  clear HA
  go_upto_region 25 with (first
    | (go_at_call 20; refine q7.mono ?_; rintro e w7 ⟨rfl, b7⟩; clear q7; have B7 := B6.trans (b7.mono B6.size); clear b7; have q8 := HXe.out 1 w7 (by decide) B7)
    | (go_at_call 6; refine q8.mono ?_; rintro e w8 ⟨rfl, b8⟩; clear q8; have B8 := B7.trans (b8.mono B7.size); clear b8; have q9 := HI.out w8; clear HI)
    | (go_at_call 21; refine q9.mono ?_; rintro e w9 ⟨rfl, b9⟩; clear q9; have B9 := B8.trans (b9.mono B8.size); clear b9))
  by_cases h5 : lv.length = 5
  · obtain ⟨lb, lf, rfl, hlv⟩ := Stp.lv HU.out h5
    have HVL : Hid (∀ wr, Below w.heap.size w wr → ∀ r : Nat, r < 5 → wr.cell? ⟨lb, lf + r, none⟩ = some (.int .i64 (lvl lv r))) := hlv
    have HO5 : Hid ((∀ (j : Nat) y, j < l.length → l[j]? = some y → dwn lv y = false) → lvE l lv = 0) := HO.out h5
    have HD5 : Hid (∀ x ∈ l, dwn lv x = true → lvE l lv = 8) := HD.out h5
    clear hlv HO HD HS HU
    rw [h5]
    rw [h5] at HV
    clear h5
    go_wp2
    rename World => wo
    go_loopw [10, 24] (fun e i wr => ∃ k : Nat, k ≤ l.length ∧ i = .int .i64 k ∧ ((e = .int .i64 0 ∧ Hid (∀ (j : Nat) y, j < k → l[j]? = some y → dwn lv y = false)) ∨ (e = .int .i64 8 ∧ Hid (lvE l lv = 8))) ∧ Below w.heap.size w wr) (fun _ i _ => l.length - (intOf i).toNat)
    case atStart => exact ⟨0, Nat.zero_le _, rfl, Or.inl ⟨rfl, fun j y hj => by omega⟩, B9⟩
    case round =>
    obtain ⟨k, hk, rfl, hs, hB9⟩ := hrel
    rcases hs with ⟨rfl, HS⟩ | ⟨rfl, HF⟩
    · by_cases hkl : k < l.length
      · have hki : (k : Int) < (l.length : Int) := by omega
        obtain ⟨b', off, f, t, kd, d, rfl, hlt, hx, c0, c1, _, _⟩ := HL.out.at hkl
        have hmem := List.mem_of_getElem? hx
        have hr := w4_rooms (HK.out _ hmem)
        have HDM : Hid (dwn lv (f, t, kd, d) = true → lvE l lv = 8) := HD5.out _ hmem
        simp only at hr
        obtain ⟨fi, rfl⟩ : ∃ n : Nat, f = n := ⟨f.toNat, by omega⟩
        obtain ⟨ti, rfl⟩ : ∃ n : Nat, t = n := ⟨t.toNat, by omega⟩
        obtain ⟨_, hf5, _, ht5, _⟩ := hr
        have HX5 : Hid (l[k]? = some ((fi : Int), (ti : Int), kd, d)) := hx
        have hf5' : (fi : Int) < 5 := hf5
        have ht5' : (ti : Int) < 5 := ht5
        replace c0 := (hB9.cell (p := ⟨b', _, none⟩) hlt).trans c0
        replace c1 := (hB9.cell (p := ⟨b', _, none⟩) hlt).trans c1
        have d0 := HVL.out wr hB9 fi (by omega)
        have d1 := HVL.out wr hB9 ti (by omega)
        clear hx hmem
        have HDW : Hid (dwn lv ((fi : Int), (ti : Int), kd, d) = decide (lvl lv (ti : Int) < lvl lv (fi : Int))) := rfl
        generalize lvl lv (fi : Int) = qf at d0 HDW
        generalize lvl lv (ti : Int) = qt at d1 HDW
        by_cases hd : qt < qf
        · have HF : Hid (lvE l lv = 8) := HDM.out (by rw [HDW.out]; simpa using hd)
          clear HDM HDW HX5
          go_wp2
          go_quiet (fail)
          go_wp2
          go_roundw
          case rel => exact ⟨k + 1, by omega, by go_num, Or.inr ⟨rfl, HF⟩, below_dN hB9 _⟩
          case measure => simp [intOf]; omega
        · have hd' : decide (qt < qf) = false := by simpa using hd
          have HF : Hid (dwn lv ((fi : Int), (ti : Int), kd, d) = false) := by show _ = _; rw [HDW.out]; exact hd'
          clear HDM HDW
          go_wp2
          go_quiet (fail)
          go_wp2
          go_roundw
          case rel =>
            refine ⟨k + 1, by omega, by go_num, Or.inl ⟨rfl, fun j y hj hy => ?_⟩, below_dN hB9 _⟩
            by_cases hjk : j < k
            · exact HS.out j y hjk hy
            · obtain rfl : j = k := by omega
              rw [HX5.out] at hy
              obtain rfl := Option.some.inj hy
              exact HF.out
          case measure => simp [intOf]; omega
      · have hki : decide ((k : Int) < (l.length : Int)) = false := by simp; omega
        have hkn : decide (k < l.length) = false := by simp; omega
        have HF : Hid (lvE l lv = 0) := HO5.out (fun j y hj hy => HS.out j y (by omega) hy)
        clear HO5 HD5
        have q10 := HV.out wr hB9
        rw [HF.out, show wErr 0 = .nilIface from rfl] at q10
        clear HV
        go_wp2_with (first
          | (go_at_call 22; refine q10.mono ?_; rintro e w10 ⟨rfl, b10⟩; clear q10; have B10 := hB9.trans (b10.mono hB9.size); clear b10; have q11 := HX.out w10 B10)
          | (go_at_call 6; refine q11.mono ?_; rintro e w11 ⟨rfl, b11⟩; clear q11; have B11 := B10.trans (b11.mono B10.size); clear b11))
        go_ret
        exact ⟨rfl, B11⟩
    · have q10 := HV.out wr hB9
      rw [HF.out, wErr_not (by decide)] at q10
      clear HV HO5 HD5
      by_cases hkl : k < l.length
      · have hki : (k : Int) < (l.length : Int) := by omega
        go_wp2_with (first
          | (go_at_call 22; refine q10.mono ?_; rintro e w10 ⟨rfl, b10⟩; clear q10; have B10 := hB9.trans (b10.mono hB9.size); clear b10; have q11 := HXe.out 8 w10 (by decide) B10)
          | (go_at_call 6; refine q11.mono ?_; rintro e w11 ⟨rfl, b11⟩; clear q11; have B11 := B10.trans (b11.mono B10.size); clear b11))
        go_ret
        exact ⟨rfl, B11⟩
      · have hki : decide ((k : Int) < (l.length : Int)) = false := by simp; omega
        have hkn : decide (k < l.length) = false := by simp; omega
        go_wp2_with (first
          | (go_at_call 22; refine q10.mono ?_; rintro e w10 ⟨rfl, b10⟩; clear q10; have B10 := hB9.trans (b10.mono hB9.size); clear b10; have q11 := HXe.out 8 w10 (by decide) B10)
          | (go_at_call 6; refine q11.mono ?_; rintro e w11 ⟨rfl, b11⟩; clear q11; have B11 := B10.trans (b11.mono B10.size); clear b11))
        go_ret
        exact ⟨rfl, B11⟩
  · have HF : Hid (lvE l lv = 3) := HS.out h5
    have h5i : ¬ ((lv.length : Int) = 5) := by omega
    clear HO HD HS HU
    have q10 := HV.out w9 B9
    rw [HF.out, wErr_not (by decide)] at q10
    clear HV
    go_wp2
    refine wp_loop_rounds 1 ?_
    rw [rounds_succ]
    by_cases h0 : 0 < l.length
    · have h0i : (0 : Int) < (l.length : Int) := by omega
      go_wp2_with (first
        | (go_at_call 22; refine q10.mono ?_; rintro e w10 ⟨rfl, b10⟩; clear q10; have B10 := B9.trans (b10.mono B9.size); clear b10; have q11 := HXe.out 3 w10 (by decide) B10)
        | (go_at_call 6; refine q11.mono ?_; rintro e w11 ⟨rfl, b11⟩; clear q11; have B11 := B10.trans (b11.mono B10.size); clear b11))
      go_ret
      exact ⟨rfl, B11⟩
    · have h0i : decide ((0 : Int) < (l.length : Int)) = false := decide_eq_false (by omega)
      have h0n : decide (0 < l.length) = false := decide_eq_false (by omega)
      go_wp2_with (first
        | (go_at_call 22; refine q10.mono ?_; rintro e w10 ⟨rfl, b10⟩; clear q10; have B10 := B9.trans (b10.mono B9.size); clear b10; have q11 := HXe.out 3 w10 (by decide) B10)
        | (go_at_call 6; refine q11.mono ?_; rintro e w11 ⟨rfl, b11⟩; clear q11; have B11 := B10.trans (b11.mono B10.size); clear b11))
      go_ret
      exact ⟨rfl, B11⟩
end Go.Proofs.YtpbdfcfifkonkacDoor

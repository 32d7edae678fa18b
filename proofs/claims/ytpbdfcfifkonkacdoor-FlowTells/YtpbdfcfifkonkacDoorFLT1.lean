/-
  The law FlowTells: wires that are right, rooms that are.
-/
import Derived.Test.YtpbdfcfifkonkacDoorFLTW
namespace Go.Proofs.YtpbdfcfifkonkacDoor
open Go.RowKit

set_option maxRecDepth 100000 in
set_option maxHeartbeats 8000000 in
theorem tells_in (l : List W4) (v u : Value) (lv : List Int) (a b : Nat) (w : World) (hg : ErrT w) (hl : Wrs w v l) (hu : Stp w u lv) (h : (wschk l).2 = 0) (ha : a < 5) (hb : b < 5) :
    Calls Tryd.prog 4 #[v, .int .i64 a, .int .i64 b, u] w fun e w' => e = .returned (.bool true) ∧ Below w.heap.size w w' := by
  obtain ⟨ii, hi, hz0, hz1, hz2⟩ := info_parts infoInt
  have hw := refwires_any l v w hl
  have hk := wschk_ok h
  rw [h] at hw
  have HC : Hid (∀ W, Below w.heap.size w W → Calls Tryd.prog 17 #[v] W fun e w' => e = .returned (.tuple #[.int .i64 (wschk l).1, .nilIface]) ∧ Below W.heap.size W w') := fun W hq => by
    have := flcheck_any l v W (hl.all hq)
    rw [h, show wErr 0 = .nilIface from rfl] at this
    exact this
  have HX : Hid (∀ W, Below w.heap.size w W → Calls Tryd.prog 6 #[.nilIface, .int .i64 0] W fun e w' => e = .returned (.bool true) ∧ Below W.heap.size W w') := fun W hq => error_nil W (hg.all hq)
  have HXe : Hid (∀ (q : Int) W, q ≠ 0 → Below w.heap.size w W → Calls Tryd.prog 6 #[.iface 61 (.int .i64 q), .int .i64 q] W fun e w' => e = .returned (.bool true) ∧ Below W.heap.size W w') := fun q W h0 hq => error_it h0 W (hg.all hq)
  have HW : Hid (∀ W, Below w.heap.size w W → Calls Tryd.prog 18 #[v] W fun e w' => e = .returned (.agg (wayCells l).toArray) ∧ Below W.heap.size W w') := fun W hq => ways_any l v W (hl.all hq) hk.1 hk.2
  have HA : Hid (∀ W, Below w.heap.size w W → Calls Tryd.prog 20 #[v, .int .i64 b] W fun e w' => ∃ u, e = .returned (.tuple #[u, .nilIface]) ∧ w'.ownsRow W.heap.size 3 1 u (ahd l b 5).length (ints (ahd l b 5)) ∧ Below W.heap.size W w') := fun W hq => ahead_ok l v b W (hl.all hq) h hb
  have HR : Hid (∀ W, Below w.heap.size w W → Calls Tryd.prog 19 #[v, .int .i64 a, .int .i64 b] W fun e w' => e = .returned (.tuple #[.bool (way l a b), .nilIface]) ∧ Below W.heap.size W w') := fun W hq => reach_ok l v a b W (hl.all hq) h ha hb
  have HV : Hid (∀ W, Below w.heap.size w W → Calls Tryd.prog 22 #[v, u] W fun e w' => e = .returned (wErr (lvE l lv)) ∧ Below W.heap.size W w') := fun W hq => levels_any l lv v u W (hl.all hq) (hu.every hq)
  have HK : Hid (∀ x ∈ l, w4chk x = 0) := hk.2
  have hlen := hk.1
  have HL : Hid (Wrs w v l) := hl
  have HU : Hid (Stp w u lv) := hu
  have HO : Hid (lv.length = 5 → (∀ (j : Nat) y, j < l.length → l[j]? = some y → dwn lv y = false) → lvE l lv = 0) := fun h5 => lvE_ok h h5
  have HD : Hid (lv.length = 5 → ∀ x ∈ l, dwn lv x = true → lvE l lv = 8) := fun h5 x hx => lvE_down h h5 hx
  have HS : Hid (lv.length ≠ 5 → lvE l lv = 3) := fun h5 => lvE_shape h h5
  obtain ⟨ao, cap, rfl⟩ := hl.form
  obtain ⟨lo, lc, rfl⟩ := hu.form
  generalize (wschk l).1 = p at *
  clear hl hu hg h hk
  have a1 : decide ((a : Int) < 0) = false := by simp
  have a2 : decide (4 < (a : Int)) = false := by simp; omega
  have a3 : decide (4 < a) = false := by simp; omega
  have a5 : (a : Int) < 5 := by omega
  have b1' : decide ((b : Int) < 0) = false := by simp
  have b2' : decide (4 < (b : Int)) = false := by simp; omega
  have b3' : decide (4 < b) = false := by simp; omega
  have b5' : (b : Int) < 5 := by omega
  go_enter Tryd.func4, Tryd.ntmps4
  go_wp2_with (first
    | (go_at_call 16; refine hw.mono ?_; rintro e w1 ⟨rfl, B1⟩; clear hw; have q2 := HC.out w1 B1; clear HC)
    | (go_at_call 17; refine q2.mono ?_; rintro e w2 ⟨rfl, b2⟩; clear q2; have B2 := B1.trans (b2.mono B1.size); clear b2; have q3 := HX.out w2 B2)
    | (go_at_call 6; refine q3.mono ?_; rintro e w3 ⟨rfl, b3⟩; clear q3; have B3 := B2.trans (b3.mono B2.size); clear b3; have q4 := HW.out w3 B3)
    | (go_at_call 18; refine q4.mono ?_; rintro e w4 ⟨rfl, b4⟩; clear q4; have B4 := B3.trans (b4.mono B3.size); clear b4)
    | (refine wpList_store_mid rfl 53 _ _ rfl w4.heap.size 0 (wayCells l).toArray rfl rfl (there_new w4 53) (by kernel_rfl) (way_one l) ?_; rw [show (wayCells l).toArray.toList = wayCells l from rfl]; have cz := ways_cell w4 l 53 ha hb; have Bz := below_cells (B4.alloc B4.size (.cells z25 53)) B4.size (wayCells l) 0; unfold z25 at cz Bz; generalize World.setCells _ w4.heap.size 0 (wayCells l) = wz at cz Bz ⊢; have q5 := HR.out wz Bz; clear HR)
    | (go_at_call 19; refine q5.mono ?_; rintro e w5 ⟨rfl, b5⟩; clear q5; have B5 := Bz.trans (b5.mono Bz.size); clear b5; have q6 := HX.out w5 B5)
    | (go_at_call 6; refine q6.mono ?_; rintro e w6 ⟨rfl, b6⟩; clear q6; have B6 := B5.trans (b6.mono B5.size); clear b6))
  go_loopw [19, 20] (fun o i wr => ∃ k : Nat, k ≤ 5 ∧ i = .int .i64 k ∧ wr.ownsRow w.heap.size 3 1 o (ahd l b k).length (ints (ahd l b k)) ∧ Below w.heap.size w wr) (fun _ i _ => 5 - (intOf i).toNat)
  case atStart => exact ⟨0, Nat.zero_le _, rfl, World.ownsRow_nil _ _ _ _, B6⟩
  case round =>
  clear B6
  obtain ⟨k, hk, rfl, own, hB⟩ := hrel
  have hal := ahd_len l b k
  by_cases hk5 : k < 5
  · have hki : (k : Int) < 5 := by omega
    have qw := HW.out wr hB
    cases hwy : way l k b with
    | true =>
      have HY : Hid (ahd l b (k + 1) = ahd l b k ++ [(k : Int)]) := ahd_yes hwy
      go_wp2_with (first
        | (go_at_call 18; refine qw.mono ?_; rintro e w7 ⟨rfl, b7⟩; clear qw; have B7 := hB.trans (b7.mono hB.size); have own7 := own_below own b7 (Nat.le_refl _); clear b7 own; have HG : Hid (Below w7.heap.size w7 ((w7.alloc (.cells z25 53)).setCells w7.heap.size 0 (wayCells l))) := below_cells ((Below.refl _ _).alloc (Nat.le_refl _) _) (Nat.le_refl _) _ _)
        | (refine wpList_store_mid rfl 53 _ _ rfl w7.heap.size 0 (wayCells l).toArray rfl rfl (there_new w7 53) (by kernel_rfl) (way_one l) ?_; rw [show (wayCells l).toArray.toList = wayCells l from rfl]; have cz := ways_cell w7 l 53 hk5 hb; rw [hwy] at cz; clear hwy; have ownz := own_below own7 HG.out (Nat.le_refl _); have Bz := B7.trans (HG.out.mono B7.size); clear HG own7; unfold z25 at cz Bz ownz; generalize World.setCells _ w7.heap.size 0 (wayCells l) = wz at cz Bz ownz ⊢)
        | (at_builtin; refine wpList_append_own _ rfl _ _ 24 rfl w.heap.size 3 ii (.int .i64 0) 1 8 Tryd.underlying24 hi hz0 hz1 hz2 rfl (by decide) _ _ _ rfl (ownz.alloc _) ⟨wz.heap.size, 0, none⟩ 1 1 [.int .i64 k] rfl rfl ?c1A ?c2A ?c3A ?c4A ?c5A ?_))
      case c1A => exact one_new_at rfl _ _
      case c2A => exact one_one k
      case c3A => unfold maxLen; omega
      case c4A => omega
      case c5A => have := Bz.size; simp; omega
      intro v1 w2 own2 hg1 _
      have hsz := Bz.size
      have hB2 : Below w.heap.size w w2 := (Bz.alloc hsz _).grown hg1 (by simp; omega) (fun j hj => (ownz.lt j hj).1)
      have HO2 : Hid (w2.ownsRow w.heap.size 3 1 v1 (ahd l b (k + 1)).length (ints (ahd l b (k + 1)))) := by
        show World.ownsRow _ _ _ _ _ _ _
        rw [HY.out, ints_snoc, List.length_append]
        exact own2
      clear ownz own2 hg1 cz
      go_wp2
      go_roundw
      case rel => exact ⟨k + 1, by omega, by go_num, HO2.out, hB2⟩
      case measure => simp [intOf]; omega
    | false =>
      have HY : Hid (ahd l b (k + 1) = ahd l b k) := ahd_no hwy
      go_wp2_with (first
        | (go_at_call 18; refine qw.mono ?_; rintro e w7 ⟨rfl, b7⟩; clear qw; have B7 := hB.trans (b7.mono hB.size); have own7 := own_below own b7 (Nat.le_refl _); clear b7 own; have HG : Hid (Below w7.heap.size w7 ((w7.alloc (.cells z25 53)).setCells w7.heap.size 0 (wayCells l))) := below_cells ((Below.refl _ _).alloc (Nat.le_refl _) _) (Nat.le_refl _) _ _)
        | (refine wpList_store_mid rfl 53 _ _ rfl w7.heap.size 0 (wayCells l).toArray rfl rfl (there_new w7 53) (by kernel_rfl) (way_one l) ?_; rw [show (wayCells l).toArray.toList = wayCells l from rfl]; have cz := ways_cell w7 l 53 hk5 hb; rw [hwy] at cz; clear hwy; have ownz := own_below own7 HG.out (Nat.le_refl _); have Bz := B7.trans (HG.out.mono B7.size); clear HG own7; rw [← HY.out] at ownz; unfold z25 at cz Bz ownz; generalize World.setCells _ w7.heap.size 0 (wayCells l) = wz at cz Bz ownz ⊢))
      go_roundw
      case rel => exact ⟨k + 1, by omega, by go_num, ownz, Bz⟩
      case measure => simp [intOf]; omega
  obtain rfl : k = 5 := by omega
  rw [show ((5 : Nat) : Int) = 5 from rfl]
  have HN : Hid (Rd wr u19 (ahd l b 5)) := Rd.own own
  obtain ⟨g9, c9, rfl⟩ := Rd.form HN.out
  have q7 := HA.out wr hB
  clear HA own HW hk5 hk
  go_upto_region 25 with (first
    | (go_at_call 20; refine q7.mono ?_; rintro e w7 ⟨x, rfl, own7, b7⟩; clear q7; have B7 := hB.trans (b7.mono hB.size); have HN7 : Hid (Rd w7 (.slice g9 (ahd l b 5).length c9) (ahd l b 5)) := HN.out.all b7; clear HN b7; have HM7 : Hid (Rd w7 x (ahd l b 5)) := Rd.own own7; obtain ⟨g8, c8, rfl⟩ := Rd.form HM7.out; clear own7; have q8 := HX.out w7 B7)
    | (go_at_call 6; refine q8.mono ?_; rintro e w8 ⟨rfl, b8⟩; clear q8; have B8 := B7.trans (b8.mono B7.size); have q9 := wints_any _ _ (ahd l b 5) w8 (HM7.out.all b8) (HN7.out.all b8) (by omega); clear HM7 HN7 b8)
    | (go_at_call 21; refine q9.mono ?_; rintro e w9 ⟨rfl, b9⟩; clear q9; have B9 := B8.trans (b9.mono B8.size); clear b9))
  by_cases h5 : lv.length = 5
  · obtain ⟨lb, lf, rfl, hlv⟩ := Stp.lv HU.out h5
    have HVL : Hid (∀ wr, Below w.heap.size w wr → ∀ r : Nat, r < 5 → wr.cell? ⟨lb, lf + r, none⟩ = some (.int .i64 (lvl lv r))) := hlv
    have HO5 : Hid ((∀ (j : Nat) y, j < l.length → l[j]? = some y → dwn lv y = false) → lvE l lv = 0) := HO.out h5
    have HD5 : Hid (∀ x ∈ l, dwn lv x = true → lvE l lv = 8) := HD.out h5
    clear hlv HO HD HS HU
    rw [h5]
    rw [h5] at HV
    clear h5
    go_wp2
    rename World => wo
    go_loopw [10, 24] (fun e i wr => ∃ k : Nat, k ≤ l.length ∧ i = .int .i64 k ∧ ((e = .int .i64 0 ∧ Hid (∀ (j : Nat) y, j < k → l[j]? = some y → dwn lv y = false)) ∨ (e = .int .i64 8 ∧ Hid (lvE l lv = 8))) ∧ Below w.heap.size w wr) (fun _ i _ => l.length - (intOf i).toNat)
    case atStart => exact ⟨0, Nat.zero_le _, rfl, Or.inl ⟨rfl, fun j y hj => by omega⟩, B9⟩
    case round =>
    obtain ⟨k, hk, rfl, hs, hB9⟩ := hrel
    rcases hs with ⟨rfl, HS⟩ | ⟨rfl, HF⟩
    · by_cases hkl : k < l.length
      · have hki : (k : Int) < (l.length : Int) := by omega
        obtain ⟨b', off, f, t, kd, d, rfl, hlt, hx, c0, c1, _, _⟩ := HL.out.at hkl
        have hmem := List.mem_of_getElem? hx
        have hr := w4_rooms (HK.out _ hmem)
        have HDM : Hid (dwn lv (f, t, kd, d) = true → lvE l lv = 8) := HD5.out _ hmem
        simp only at hr
        obtain ⟨fi, rfl⟩ : ∃ n : Nat, f = n := ⟨f.toNat, by omega⟩
        obtain ⟨ti, rfl⟩ : ∃ n : Nat, t = n := ⟨t.toNat, by omega⟩
        obtain ⟨_, hf5, _, ht5, _⟩ := hr
        have HX5 : Hid (l[k]? = some ((fi : Int), (ti : Int), kd, d)) := hx
        have hf5' : (fi : Int) < 5 := hf5
        have ht5' : (ti : Int) < 5 := ht5
        replace c0 := (hB9.cell (p := ⟨b', _, none⟩) hlt).trans c0
        replace c1 := (hB9.cell (p := ⟨b', _, none⟩) hlt).trans c1
        have d0 := HVL.out wr hB9 fi (by omega)
        have d1 := HVL.out wr hB9 ti (by omega)
        clear hx hmem
        have HDW : Hid (dwn lv ((fi : Int), (ti : Int), kd, d) = decide (lvl lv (ti : Int) < lvl lv (fi : Int))) := rfl
        generalize lvl lv (fi : Int) = qf at d0 HDW
        generalize lvl lv (ti : Int) = qt at d1 HDW
        by_cases hd : qt < qf
        · have HF : Hid (lvE l lv = 8) := HDM.out (by rw [HDW.out]; simpa using hd)
          clear HDM HDW HX5
          go_wp2
          go_quiet (fail)
          go_wp2
          go_roundw
          case rel => exact ⟨k + 1, by omega, by go_num, Or.inr ⟨rfl, HF⟩, below_dN hB9 _⟩
          case measure => simp [intOf]; omega
        · have hd' : decide (qt < qf) = false := by simpa using hd
          have HF : Hid (dwn lv ((fi : Int), (ti : Int), kd, d) = false) := by show _ = _; rw [HDW.out]; exact hd'
          clear HDM HDW
          go_wp2
          go_quiet (fail)
          go_wp2
          go_roundw
          case rel =>
            refine ⟨k + 1, by omega, by go_num, Or.inl ⟨rfl, fun j y hj hy => ?_⟩, below_dN hB9 _⟩
            by_cases hjk : j < k
            · exact HS.out j y hjk hy
            · obtain rfl : j = k := by omega
              rw [HX5.out] at hy
              obtain rfl := Option.some.inj hy
              exact HF.out
          case measure => simp [intOf]; omega
      · have hki : decide ((k : Int) < (l.length : Int)) = false := by simp; omega
        have hkn : decide (k < l.length) = false := by simp; omega
        have HF : Hid (lvE l lv = 0) := HO5.out (fun j y hj hy => HS.out j y (by omega) hy)
        clear HO5 HD5
        have q10 := HV.out wr hB9
        rw [HF.out, show wErr 0 = .nilIface from rfl] at q10
        clear HV
        go_wp2_with (first
          | (go_at_call 22; refine q10.mono ?_; rintro e w10 ⟨rfl, b10⟩; clear q10; have B10 := hB9.trans (b10.mono hB9.size); clear b10; have q11 := HX.out w10 B10)
          | (go_at_call 6; refine q11.mono ?_; rintro e w11 ⟨rfl, b11⟩; clear q11; have B11 := B10.trans (b11.mono B10.size); clear b11))
        go_ret
        exact ⟨rfl, B11⟩
    · have q10 := HV.out wr hB9
      rw [HF.out, wErr_not (by decide)] at q10
      clear HV HO5 HD5
      by_cases hkl : k < l.length
      · have hki : (k : Int) < (l.length : Int) := by omega
        go_wp2_with (first
          | (go_at_call 22; refine q10.mono ?_; rintro e w10 ⟨rfl, b10⟩; clear q10; have B10 := hB9.trans (b10.mono hB9.size); clear b10; have q11 := HXe.out 8 w10 (by decide) B10)
          | (go_at_call 6; refine q11.mono ?_; rintro e w11 ⟨rfl, b11⟩; clear q11; have B11 := B10.trans (b11.mono B10.size); clear b11))
        go_ret
        exact ⟨rfl, B11⟩
      · have hki : decide ((k : Int) < (l.length : Int)) = false := by simp; omega
        have hkn : decide (k < l.length) = false := by simp; omega
        go_wp2_with (first
          | (go_at_call 22; refine q10.mono ?_; rintro e w10 ⟨rfl, b10⟩; clear q10; have B10 := hB9.trans (b10.mono hB9.size); clear b10; have q11 := HXe.out 8 w10 (by decide) B10)
          | (go_at_call 6; refine q11.mono ?_; rintro e w11 ⟨rfl, b11⟩; clear q11; have B11 := B10.trans (b11.mono B10.size); clear b11))
        go_ret
        exact ⟨rfl, B11⟩
  · have HF : Hid (lvE l lv = 3) := HS.out h5
    have h5i : ¬ ((lv.length : Int) = 5) := by omega
    clear HO HD HS HU
    have q10 := HV.out w9 B9
    rw [HF.out, wErr_not (by decide)] at q10
    clear HV
    go_wp2
    refine wp_loop_rounds 1 ?_
    rw [rounds_succ]
    by_cases h0 : 0 < l.length
    · have h0i : (0 : Int) < (l.length : Int) := by omega
      go_wp2_with (first
        | (go_at_call 22; refine q10.mono ?_; rintro e w10 ⟨rfl, b10⟩; clear q10; have B10 := B9.trans (b10.mono B9.size); clear b10; have q11 := HXe.out 3 w10 (by decide) B10)
        | (go_at_call 6; refine q11.mono ?_; rintro e w11 ⟨rfl, b11⟩; clear q11; have B11 := B10.trans (b11.mono B10.size); clear b11))
      go_ret
      exact ⟨rfl, B11⟩
    · have h0i : decide ((0 : Int) < (l.length : Int)) = false := decide_eq_false (by omega)
      have h0n : decide (0 < l.length) = false := decide_eq_false (by omega)
      go_wp2_with (first
        | (go_at_call 22; refine q10.mono ?_; rintro e w10 ⟨rfl, b10⟩; clear q10; have B10 := B9.trans (b10.mono B9.size); clear b10; have q11 := HXe.out 3 w10 (by decide) B10)
        | (go_at_call 6; refine q11.mono ?_; rintro e w11 ⟨rfl, b11⟩; clear q11; have B11 := B10.trans (b11.mono B10.size); clear b11))
      go_ret
      exact ⟨rfl, B11⟩
end Go.Proofs.YtpbdfcfifkonkacDoor

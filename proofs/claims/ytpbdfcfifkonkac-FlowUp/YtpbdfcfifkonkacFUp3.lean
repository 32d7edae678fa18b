/-
  The law FlowUp: where all is told.
-/
import Derived.Test.YtpbdfcfifkonkacFUp1
namespace Go.Proofs.Ytpbdfcfifkonkac
open Go.RowKit

theorem Stp.all {w w' : World} {v : Value} {l : List Int} (h : Stp w v l) (hb : Below w.heap.size w w') : Stp w' v l := by
  rcases h with h | ⟨b, off, cap, rfl, hlt, hc⟩
  · exact Or.inl h
  · exact Or.inr ⟨b, off, cap, rfl, Nat.lt_of_lt_of_le hlt hb.size, fun i x hx => (hb.cell (p := ⟨b, _, none⟩) hlt).trans (hc i x hx)⟩

set_option maxRecDepth 100000 in
set_option maxHeartbeats 8000000 in
theorem up_F_ok (l : List W4) (v u : Value) (lv : List Int) (a b c : Nat) (f t kd d : Int) (w : World) (hl : Wrs w v l) (hu : Stp w u lv) (h : (wschk l).2 = 0) (ha : a < 5) (hb : b < 5) (hc : c < 5) (hx : way l a b = false) (hv : lvE l lv = 0) :
    Calls Try.prog 3 #[v, .int .i64 a, .int .i64 b, .int .i64 c, u, wV f t kd d] w fun e w' => e = .returned (.bool true) ∧ Below w.heap.size w w' := by
  have HR1 : Hid (∀ W, Below w.heap.size w W → Calls Try.prog 5 #[v, .int .i64 a, .int .i64 b] W fun e w' => e = .returned (.tuple #[.bool false, .nilIface]) ∧ Below W.heap.size W w') := fun W hq => by
    have := reach_ok l v a b W (hl.all hq) h ha hb
    rw [hx] at this
    exact this
  have HR2 : Hid (∀ W, Below w.heap.size w W → Calls Try.prog 5 #[v, .int .i64 b, .int .i64 c] W fun e w' => e = .returned (.tuple #[.bool (way l b c), .nilIface]) ∧ Below W.heap.size W w') := fun W hq => by
    have := reach_ok l v b c W (hl.all hq) h hb hc
    exact this
  have HR3 : Hid (∀ W, Below w.heap.size w W → Calls Try.prog 5 #[v, .int .i64 a, .int .i64 c] W fun e w' => e = .returned (.tuple #[.bool (way l a c), .nilIface]) ∧ Below W.heap.size W w') := fun W hq => by
    have := reach_ok l v a c W (hl.all hq) h ha hc
    exact this
  have HR4 : Hid (∀ W, Below w.heap.size w W → Calls Try.prog 5 #[v, .int .i64 a, .int .i64 a] W fun e w' => e = .returned (.tuple #[.bool true, .nilIface]) ∧ Below W.heap.size W w') := fun W hq => by
    have := reach_ok l v a a W (hl.all hq) h ha ha
    rw [way_self] at this
    exact this
  have HLV : Hid (∀ W, Below w.heap.size w W → Calls Try.prog 6 #[v, u] W fun e w' => e = .returned (.nilIface) ∧ Below W.heap.size W w') := fun W hq => by
    have := levels_any l lv v u W (hl.all hq) (hu.all hq)
    rw [hv, show wErr 0 = .nilIface from rfl] at this
    exact this
  have HE : Hid (∀ W v2, Wrs W v2 (l ++ [(f, t, kd, d)]) → Calls Try.prog 5 #[v2, .int .i64 a, .int .i64 b] W fun e w' => e = .returned (.tuple #[.bool (rchB (l ++ [(f, t, kd, d)]) a b), wErr (rchE (l ++ [(f, t, kd, d)]) a b)]) ∧ Below W.heap.size W w') := fun W v2 hq => reach_any _ v2 a b W hq
  have h5 := lv_five hv
  have hlen := (wschk_ok h).1
  have HL : Hid (Wrs w v l) := hl
  obtain ⟨ao, cap, rfl⟩ := hl.form
  obtain ⟨lo, lc, rfl⟩ := hu.form
  unfold wV
  have HO : Hid (∀ k W, k = (w.alloc (.cells #[.int .i64 f, .int .i64 t, .int .i64 kd, .int .i64 d] 25)).heap.size → Below ((w.alloc (.cells #[.int .i64 f, .int .i64 t, .int .i64 kd, .int .i64 d] 25)).alloc (.cells #[.int .i64 0, .int .i64 1, .int .i64 1, .int .i64 1] 25)).heap.size ((w.alloc (.cells #[.int .i64 f, .int .i64 t, .int .i64 kd, .int .i64 d] 25)).alloc (.cells #[.int .i64 0, .int .i64 1, .int .i64 1, .int .i64 1] 25)) W → Wrs W (.slice (some ⟨k, 0, none⟩) 1 1) oneW) := fun k W hk hb => (one_wrs_at hk).all hb
  have BA : Below w.heap.size w ((w.alloc (.cells #[.int .i64 f, .int .i64 t, .int .i64 kd, .int .i64 d] 25)).alloc (.cells #[.int .i64 0, .int .i64 1, .int .i64 1, .int .i64 1] 25)) := ((Below.refl _ _).alloc (Nat.le_refl _) _).alloc (by simp) _
  obtain ⟨lb, lf, rfl, hlv⟩ := Stp.lv hu h5
  have HV : Hid (∀ wr, Below w.heap.size w wr → ∀ r : Nat, r < 5 → wr.cell? ⟨lb, lf + r, none⟩ = some (.int .i64 (lvl lv r))) := hlv
  rw [h5] at HLV ⊢
  clear hlv h5
  have e1 : decide (4 < (a : Int)) = false := by simp; omega
  have e2 : decide (4 < (b : Int)) = false := by simp; omega
  have e3 : decide (4 < a) = false := by simp; omega
  have e4 : decide (4 < b) = false := by simp; omega
  have e7 : decide ((a : Int) < 0) = false := by simp
  have e8 : decide ((b : Int) < 0) = false := by simp
  have e5 : (a : Int) < 5 := by omega
  have e6 : (b : Int) < 5 := by omega
  have q1 := fun k hk => one_fact _ _ (HO.out k _ hk (Below.refl _ _))
  clear hl hu h hv hx
  go_enter Try.func3, Try.ntmps3
  go_wp2_with (first
    | (go_at_call 5; refine (q1 _ (by simp)).mono ?_; rintro e w1 ⟨rfl, b1⟩; clear q1; have q2 := fun k hk => one_back _ _ (HO.out k w1 hk b1); clear HO)
    | (go_at_call 5; refine (q2 _ (by simp)).mono ?_; rintro e w2 ⟨rfl, b2⟩; clear q2; have D2 := b1.trans (b2.mono b1.size); clear b1 b2; have q3 := HR1.out w2 (BA.trans (D2.mono BA.size)); clear HR1)
    | (go_at_call 5; refine q3.mono ?_; rintro e w3 ⟨rfl, b3⟩; clear q3; have D3 := D2.trans (b3.mono D2.size); clear D2 b3; have q4 := HR2.out w3 (BA.trans (D3.mono BA.size)); clear HR2)
    | (go_at_call 5; refine q4.mono ?_; rintro e w4 ⟨rfl, b4⟩; clear q4; have D4 := D3.trans (b4.mono D3.size); clear D3 b4; have q5 := HR3.out w4 (BA.trans (D4.mono BA.size)); clear HR3)
    | (go_at_call 5; refine q5.mono ?_; rintro e w5 ⟨rfl, b5⟩; clear q5; have D5 := D4.trans (b5.mono D4.size); clear D4 b5; have q6 := HR4.out w5 (BA.trans (D5.mono BA.size)); clear HR4)
    | (go_at_call 5; refine q6.mono ?_; rintro e w6 ⟨rfl, b6⟩; clear q6; have D6 := D5.trans (b6.mono D5.size); clear D5 b6; have q7 := HLV.out w6 (BA.trans (D6.mono BA.size)); clear HLV)
    | (go_at_call 6; refine q7.mono ?_; rintro e w7 ⟨rfl, b7⟩; clear q7; have D7 := D6.trans (b7.mono D6.size); clear D6 b7; have BW7 := BA.trans (D7.mono BA.size); clear HV))
  go_quiet (fail)
  have DW := below_dN D7 nq
  have BW := below_dN BW7 nq
  have mm0 : World.cell? (w7.drewN nq) ⟨w.heap.size, 0, none⟩ = some (.int .i64 f) := (DW.cell (p := ⟨w.heap.size, 0, none⟩) (by simp; omega)).trans (by simp)
  have mm1 : World.cell? (w7.drewN nq) ⟨w.heap.size, 1, none⟩ = some (.int .i64 t) := (DW.cell (p := ⟨w.heap.size, 1, none⟩) (by simp; omega)).trans (by simp)
  have mm2 : World.cell? (w7.drewN nq) ⟨w.heap.size, 2, none⟩ = some (.int .i64 kd) := (DW.cell (p := ⟨w.heap.size, 2, none⟩) (by simp; omega)).trans (by simp)
  have mm3 : World.cell? (w7.drewN nq) ⟨w.heap.size, 3, none⟩ = some (.int .i64 d) := (DW.cell (p := ⟨w.heap.size, 3, none⟩) (by simp; omega)).trans (by simp)
  obtain ⟨ii, hi, hz0, hz1, hz2⟩ := info_parts infoWr
  go_wp2_with (first
    | (at_builtin; obtain ⟨va, wa, hra, owna, hga⟩ := append_wires l (.slice ao l.length cap) (w7.drewN nq) w.heap.size 22 (HL.out.all BW) hlen BW.size; refine wpList_append_eq rfl _ _ 22 rfl (.slice none 0 0) (.slice ao l.length cap) rfl rfl va wa hra ?_; clear hra
       have m0 := hga.cell mm0 (by simp)
       have m1 := hga.cell mm1 (by simp)
       have m2 := hga.cell mm2 (by simp)
       have m3 := hga.cell mm3 (by simp)
       have BW2 := BW.grown hga BW.size (by intro k hk; cases hk)
       clear hga mm0 mm1 mm2 mm3)
    | (at_builtin; refine wpList_append_own _ rfl _ _ 22 rfl w.heap.size 25 ii (.agg #[.int .i64 0, .int .i64 0, .int .i64 0, .int .i64 0]) 4 32 Try.underlying22 hi hz0 hz1 hz2 rfl (by decide) _ _ _ rfl (owna.alloc _) ⟨wa.heap.size, 0, none⟩ 1 1 [.int .i64 f, .int .i64 t, .int .i64 kd, .int .i64 d] rfl rfl ?c1A ?c2A ?c3A ?c4A ?c5A ?_))
  case c1A => exact wr_new rfl _ _ _ _ _
  case c2A => exact four_one f t kd d
  case c3A => unfold maxLen; omega
  case c4A => omega
  case c5A => have := BW2.size; simp; omega
  intro v2 w9 own2 hg9 _
  have hsa := BW2.size
  have B9 : Below w.heap.size w w9 := (BW2.alloc hsa _).grown hg9 (by simp; omega) (fun j hj => (owna.lt j hj).1)
  have qe := HE.out w9 v2 (wrs_of_own (base := w.heap.size) (by rw [wrCells_snoc, List.length_append]; exact own2))
  obtain ⟨g2, c2, rfl⟩ := own4_form own2
  clear HE own2 hg9 owna m0 m1 m2 m3
  by_cases hE : rchE (l ++ [(f, t, kd, d)]) a b = 0
  · rw [hE, show wErr 0 = .nilIface from rfl] at qe
    clear hE
    go_wp2_with (go_at_call 5; refine qe.mono ?_; rintro e w10 ⟨rfl, b10⟩; clear qe)
    go_ret
    exact ⟨rfl, B9.trans (b10.mono B9.size)⟩
  · rw [wErr_not hE] at qe
    clear hE
    go_wp2_with (go_at_call 5; refine qe.mono ?_; rintro e w10 ⟨rfl, b10⟩; clear qe)
    go_ret
    exact ⟨rfl, B9.trans (b10.mono B9.size)⟩
set_option maxRecDepth 100000 in
set_option maxHeartbeats 8000000 in
theorem up_F_no (l : List W4) (v u : Value) (lv : List Int) (a b c : Nat) (f t kd d : Int) (w : World) (hl : Wrs w v l) (hu : Stp w u lv) (h : (wschk l).2 = 0) (ha : a < 5) (hb : b < 5) (hc : c < 5) (hx : way l a b = false) (hv : lvE l lv ≠ 0) :
    Calls Try.prog 3 #[v, .int .i64 a, .int .i64 b, .int .i64 c, u, wV f t kd d] w fun e w' => e = .returned (.bool true) ∧ Below w.heap.size w w' := by
  have HR1 : Hid (∀ W, Below w.heap.size w W → Calls Try.prog 5 #[v, .int .i64 a, .int .i64 b] W fun e w' => e = .returned (.tuple #[.bool false, .nilIface]) ∧ Below W.heap.size W w') := fun W hq => by
    have := reach_ok l v a b W (hl.all hq) h ha hb
    rw [hx] at this
    exact this
  have HR2 : Hid (∀ W, Below w.heap.size w W → Calls Try.prog 5 #[v, .int .i64 b, .int .i64 c] W fun e w' => e = .returned (.tuple #[.bool (way l b c), .nilIface]) ∧ Below W.heap.size W w') := fun W hq => by
    have := reach_ok l v b c W (hl.all hq) h hb hc
    exact this
  have HR3 : Hid (∀ W, Below w.heap.size w W → Calls Try.prog 5 #[v, .int .i64 a, .int .i64 c] W fun e w' => e = .returned (.tuple #[.bool (way l a c), .nilIface]) ∧ Below W.heap.size W w') := fun W hq => by
    have := reach_ok l v a c W (hl.all hq) h ha hc
    exact this
  have HR4 : Hid (∀ W, Below w.heap.size w W → Calls Try.prog 5 #[v, .int .i64 a, .int .i64 a] W fun e w' => e = .returned (.tuple #[.bool true, .nilIface]) ∧ Below W.heap.size W w') := fun W hq => by
    have := reach_ok l v a a W (hl.all hq) h ha ha
    rw [way_self] at this
    exact this
  have HLV : Hid (∀ W, Below w.heap.size w W → Calls Try.prog 6 #[v, u] W fun e w' => e = .returned (.iface 37 (.int .i64 (lvE l lv))) ∧ Below W.heap.size W w') := fun W hq => by
    have := levels_any l lv v u W (hl.all hq) (hu.all hq)
    rw [wErr_not hv] at this
    exact this
  have HE : Hid (∀ W v2, Wrs W v2 (l ++ [(f, t, kd, d)]) → Calls Try.prog 5 #[v2, .int .i64 a, .int .i64 b] W fun e w' => e = .returned (.tuple #[.bool (rchB (l ++ [(f, t, kd, d)]) a b), wErr (rchE (l ++ [(f, t, kd, d)]) a b)]) ∧ Below W.heap.size W w') := fun W v2 hq => reach_any _ v2 a b W hq
  have hlen := (wschk_ok h).1
  have HL : Hid (Wrs w v l) := hl
  obtain ⟨ao, cap, rfl⟩ := hl.form
  obtain ⟨lo, lc, rfl⟩ := hu.form
  unfold wV
  have HO : Hid (∀ k W, k = (w.alloc (.cells #[.int .i64 f, .int .i64 t, .int .i64 kd, .int .i64 d] 25)).heap.size → Below ((w.alloc (.cells #[.int .i64 f, .int .i64 t, .int .i64 kd, .int .i64 d] 25)).alloc (.cells #[.int .i64 0, .int .i64 1, .int .i64 1, .int .i64 1] 25)).heap.size ((w.alloc (.cells #[.int .i64 f, .int .i64 t, .int .i64 kd, .int .i64 d] 25)).alloc (.cells #[.int .i64 0, .int .i64 1, .int .i64 1, .int .i64 1] 25)) W → Wrs W (.slice (some ⟨k, 0, none⟩) 1 1) oneW) := fun k W hk hb => (one_wrs_at hk).all hb
  have BA : Below w.heap.size w ((w.alloc (.cells #[.int .i64 f, .int .i64 t, .int .i64 kd, .int .i64 d] 25)).alloc (.cells #[.int .i64 0, .int .i64 1, .int .i64 1, .int .i64 1] 25)) := ((Below.refl _ _).alloc (Nat.le_refl _) _).alloc (by simp) _
  have q1 := fun k hk => one_fact _ _ (HO.out k _ hk (Below.refl _ _))
  clear hl hu h hv hx
  go_enter Try.func3, Try.ntmps3
  go_wp2_with (first
    | (go_at_call 5; refine (q1 _ (by simp)).mono ?_; rintro e w1 ⟨rfl, b1⟩; clear q1; have q2 := fun k hk => one_back _ _ (HO.out k w1 hk b1); clear HO)
    | (go_at_call 5; refine (q2 _ (by simp)).mono ?_; rintro e w2 ⟨rfl, b2⟩; clear q2; have D2 := b1.trans (b2.mono b1.size); clear b1 b2; have q3 := HR1.out w2 (BA.trans (D2.mono BA.size)); clear HR1)
    | (go_at_call 5; refine q3.mono ?_; rintro e w3 ⟨rfl, b3⟩; clear q3; have D3 := D2.trans (b3.mono D2.size); clear D2 b3; have q4 := HR2.out w3 (BA.trans (D3.mono BA.size)); clear HR2)
    | (go_at_call 5; refine q4.mono ?_; rintro e w4 ⟨rfl, b4⟩; clear q4; have D4 := D3.trans (b4.mono D3.size); clear D3 b4; have q5 := HR3.out w4 (BA.trans (D4.mono BA.size)); clear HR3)
    | (go_at_call 5; refine q5.mono ?_; rintro e w5 ⟨rfl, b5⟩; clear q5; have D5 := D4.trans (b5.mono D4.size); clear D4 b5; have q6 := HR4.out w5 (BA.trans (D5.mono BA.size)); clear HR4)
    | (go_at_call 5; refine q6.mono ?_; rintro e w6 ⟨rfl, b6⟩; clear q6; have D6 := D5.trans (b6.mono D5.size); clear D5 b6; have q7 := HLV.out w6 (BA.trans (D6.mono BA.size)); clear HLV)
    | (go_at_call 6; refine q7.mono ?_; rintro e w7 ⟨rfl, b7⟩; clear q7; have DW := D6.trans (b7.mono D6.size); clear D6 b7; have BW := BA.trans (DW.mono BA.size); obtain ⟨ii, hi, hz0, hz1, hz2⟩ := info_parts infoWr; have mm0 : World.cell? (w7) ⟨w.heap.size, 0, none⟩ = some (.int .i64 f) := (DW.cell (p := ⟨w.heap.size, 0, none⟩) (by simp; omega)).trans (by simp); have mm1 : World.cell? (w7) ⟨w.heap.size, 1, none⟩ = some (.int .i64 t) := (DW.cell (p := ⟨w.heap.size, 1, none⟩) (by simp; omega)).trans (by simp); have mm2 : World.cell? (w7) ⟨w.heap.size, 2, none⟩ = some (.int .i64 kd) := (DW.cell (p := ⟨w.heap.size, 2, none⟩) (by simp; omega)).trans (by simp); have mm3 : World.cell? (w7) ⟨w.heap.size, 3, none⟩ = some (.int .i64 d) := (DW.cell (p := ⟨w.heap.size, 3, none⟩) (by simp; omega)).trans (by simp))
    | (at_builtin; obtain ⟨va, wa, hra, owna, hga⟩ := append_wires l (.slice ao l.length cap) (w7) w.heap.size 22 (HL.out.all BW) hlen BW.size; refine wpList_append_eq rfl _ _ 22 rfl (.slice none 0 0) (.slice ao l.length cap) rfl rfl va wa hra ?_; clear hra
       have m0 := hga.cell mm0 (by simp)
       have m1 := hga.cell mm1 (by simp)
       have m2 := hga.cell mm2 (by simp)
       have m3 := hga.cell mm3 (by simp)
       have BW2 := BW.grown hga BW.size (by intro k hk; cases hk)
       clear hga mm0 mm1 mm2 mm3)
    | (at_builtin; refine wpList_append_own _ rfl _ _ 22 rfl w.heap.size 25 ii (.agg #[.int .i64 0, .int .i64 0, .int .i64 0, .int .i64 0]) 4 32 Try.underlying22 hi hz0 hz1 hz2 rfl (by decide) _ _ _ rfl (owna.alloc _) ⟨wa.heap.size, 0, none⟩ 1 1 [.int .i64 f, .int .i64 t, .int .i64 kd, .int .i64 d] rfl rfl ?c1A ?c2A ?c3A ?c4A ?c5A ?_))
  case c1A => exact wr_new rfl _ _ _ _ _
  case c2A => exact four_one f t kd d
  case c3A => unfold maxLen; omega
  case c4A => omega
  case c5A => have := BW2.size; simp; omega
  intro v2 w9 own2 hg9 _
  have hsa := BW2.size
  have B9 : Below w.heap.size w w9 := (BW2.alloc hsa _).grown hg9 (by simp; omega) (fun j hj => (owna.lt j hj).1)
  have qe := HE.out w9 v2 (wrs_of_own (base := w.heap.size) (by rw [wrCells_snoc, List.length_append]; exact own2))
  obtain ⟨g2, c2, rfl⟩ := own4_form own2
  clear HE own2 hg9 owna m0 m1 m2 m3
  by_cases hE : rchE (l ++ [(f, t, kd, d)]) a b = 0
  · rw [hE, show wErr 0 = .nilIface from rfl] at qe
    clear hE
    go_wp2_with (go_at_call 5; refine qe.mono ?_; rintro e w10 ⟨rfl, b10⟩; clear qe)
    go_ret
    exact ⟨rfl, B9.trans (b10.mono B9.size)⟩
  · rw [wErr_not hE] at qe
    clear hE
    go_wp2_with (go_at_call 5; refine qe.mono ?_; rintro e w10 ⟨rfl, b10⟩; clear qe)
    go_ret
    exact ⟨rfl, B9.trans (b10.mono B9.size)⟩
set_option maxRecDepth 100000 in
set_option maxHeartbeats 8000000 in
theorem up_TF_ok (l : List W4) (v u : Value) (lv : List Int) (a b c : Nat) (f t kd d : Int) (w : World) (hl : Wrs w v l) (hu : Stp w u lv) (h : (wschk l).2 = 0) (ha : a < 5) (hb : b < 5) (hc : c < 5) (hx : way l a b = true) (hy : way l b c = false) (hv : lvE l lv = 0) :
    Calls Try.prog 3 #[v, .int .i64 a, .int .i64 b, .int .i64 c, u, wV f t kd d] w fun e w' => e = .returned (.bool true) ∧ Below w.heap.size w w' := by
  have HR1 : Hid (∀ W, Below w.heap.size w W → Calls Try.prog 5 #[v, .int .i64 a, .int .i64 b] W fun e w' => e = .returned (.tuple #[.bool true, .nilIface]) ∧ Below W.heap.size W w') := fun W hq => by
    have := reach_ok l v a b W (hl.all hq) h ha hb
    rw [hx] at this
    exact this
  have HR2 : Hid (∀ W, Below w.heap.size w W → Calls Try.prog 5 #[v, .int .i64 b, .int .i64 c] W fun e w' => e = .returned (.tuple #[.bool false, .nilIface]) ∧ Below W.heap.size W w') := fun W hq => by
    have := reach_ok l v b c W (hl.all hq) h hb hc
    rw [hy] at this
    exact this
  have HR3 : Hid (∀ W, Below w.heap.size w W → Calls Try.prog 5 #[v, .int .i64 a, .int .i64 c] W fun e w' => e = .returned (.tuple #[.bool (way l a c), .nilIface]) ∧ Below W.heap.size W w') := fun W hq => by
    have := reach_ok l v a c W (hl.all hq) h ha hc
    exact this
  have HR4 : Hid (∀ W, Below w.heap.size w W → Calls Try.prog 5 #[v, .int .i64 a, .int .i64 a] W fun e w' => e = .returned (.tuple #[.bool true, .nilIface]) ∧ Below W.heap.size W w') := fun W hq => by
    have := reach_ok l v a a W (hl.all hq) h ha ha
    rw [way_self] at this
    exact this
  have HLV : Hid (∀ W, Below w.heap.size w W → Calls Try.prog 6 #[v, u] W fun e w' => e = .returned (.nilIface) ∧ Below W.heap.size W w') := fun W hq => by
    have := levels_any l lv v u W (hl.all hq) (hu.all hq)
    rw [hv, show wErr 0 = .nilIface from rfl] at this
    exact this
  have HE : Hid (∀ W v2, Wrs W v2 (l ++ [(f, t, kd, d)]) → Calls Try.prog 5 #[v2, .int .i64 a, .int .i64 b] W fun e w' => e = .returned (.tuple #[.bool (rchB (l ++ [(f, t, kd, d)]) a b), wErr (rchE (l ++ [(f, t, kd, d)]) a b)]) ∧ Below W.heap.size W w') := fun W v2 hq => reach_any _ v2 a b W hq
  have HY : Hid (rchE (l ++ [(f, t, kd, d)]) a b = 0 → rchB (l ++ [(f, t, kd, d)]) a b = true) := fun hq => by rw [rchB, if_pos hq, Int.toNat_natCast, Int.toNat_natCast]; exact way_more l _ hx
  have h5 := lv_five hv
  have hle : decide (lvl lv (b : Int) < lvl lv (a : Int)) = false := by have := (lv_way hv hx).2; simpa using this
  have hlen := (wschk_ok h).1
  have HL : Hid (Wrs w v l) := hl
  obtain ⟨ao, cap, rfl⟩ := hl.form
  obtain ⟨lo, lc, rfl⟩ := hu.form
  unfold wV
  have HO : Hid (∀ k W, k = (w.alloc (.cells #[.int .i64 f, .int .i64 t, .int .i64 kd, .int .i64 d] 25)).heap.size → Below ((w.alloc (.cells #[.int .i64 f, .int .i64 t, .int .i64 kd, .int .i64 d] 25)).alloc (.cells #[.int .i64 0, .int .i64 1, .int .i64 1, .int .i64 1] 25)).heap.size ((w.alloc (.cells #[.int .i64 f, .int .i64 t, .int .i64 kd, .int .i64 d] 25)).alloc (.cells #[.int .i64 0, .int .i64 1, .int .i64 1, .int .i64 1] 25)) W → Wrs W (.slice (some ⟨k, 0, none⟩) 1 1) oneW) := fun k W hk hb => (one_wrs_at hk).all hb
  have BA : Below w.heap.size w ((w.alloc (.cells #[.int .i64 f, .int .i64 t, .int .i64 kd, .int .i64 d] 25)).alloc (.cells #[.int .i64 0, .int .i64 1, .int .i64 1, .int .i64 1] 25)) := ((Below.refl _ _).alloc (Nat.le_refl _) _).alloc (by simp) _
  obtain ⟨lb, lf, rfl, hlv⟩ := Stp.lv hu h5
  have HV : Hid (∀ wr, Below w.heap.size w wr → ∀ r : Nat, r < 5 → wr.cell? ⟨lb, lf + r, none⟩ = some (.int .i64 (lvl lv r))) := hlv
  rw [h5] at HLV ⊢
  clear hlv h5
  have e1 : decide (4 < (a : Int)) = false := by simp; omega
  have e2 : decide (4 < (b : Int)) = false := by simp; omega
  have e3 : decide (4 < a) = false := by simp; omega
  have e4 : decide (4 < b) = false := by simp; omega
  have e7 : decide ((a : Int) < 0) = false := by simp
  have e8 : decide ((b : Int) < 0) = false := by simp
  have e5 : (a : Int) < 5 := by omega
  have e6 : (b : Int) < 5 := by omega
  have q1 := fun k hk => one_fact _ _ (HO.out k _ hk (Below.refl _ _))
  clear hl hu h hv hx hy
  go_enter Try.func3, Try.ntmps3
  go_wp2_with (first
    | (go_at_call 5; refine (q1 _ (by simp)).mono ?_; rintro e w1 ⟨rfl, b1⟩; clear q1; have q2 := fun k hk => one_back _ _ (HO.out k w1 hk b1); clear HO)
    | (go_at_call 5; refine (q2 _ (by simp)).mono ?_; rintro e w2 ⟨rfl, b2⟩; clear q2; have D2 := b1.trans (b2.mono b1.size); clear b1 b2; have q3 := HR1.out w2 (BA.trans (D2.mono BA.size)); clear HR1)
    | (go_at_call 5; refine q3.mono ?_; rintro e w3 ⟨rfl, b3⟩; clear q3; have D3 := D2.trans (b3.mono D2.size); clear D2 b3; have q4 := HR2.out w3 (BA.trans (D3.mono BA.size)); clear HR2)
    | (go_at_call 5; refine q4.mono ?_; rintro e w4 ⟨rfl, b4⟩; clear q4; have D4 := D3.trans (b4.mono D3.size); clear D3 b4; have q5 := HR3.out w4 (BA.trans (D4.mono BA.size)); clear HR3)
    | (go_at_call 5; refine q5.mono ?_; rintro e w5 ⟨rfl, b5⟩; clear q5; have D5 := D4.trans (b5.mono D4.size); clear D4 b5; have q6 := HR4.out w5 (BA.trans (D5.mono BA.size)); clear HR4)
    | (go_at_call 5; refine q6.mono ?_; rintro e w6 ⟨rfl, b6⟩; clear q6; have D6 := D5.trans (b6.mono D5.size); clear D5 b6; have q7 := HLV.out w6 (BA.trans (D6.mono BA.size)); clear HLV)
    | (go_at_call 6; refine q7.mono ?_; rintro e w7 ⟨rfl, b7⟩; clear q7; have D7 := D6.trans (b7.mono D6.size); clear D6 b7; have BW7 := BA.trans (D7.mono BA.size); have d0 := HV.out w7 BW7 a ha; have d1 := HV.out w7 BW7 b hb; clear HV))
  generalize lvl lv (a : Int) = la at d0 hle
  generalize lvl lv (b : Int) = lb' at d1 hle
  go_quiet (fail)
  have DW := below_dN D7 nq
  have BW := below_dN BW7 nq
  have mm0 : World.cell? (w7.drewN nq) ⟨w.heap.size, 0, none⟩ = some (.int .i64 f) := (DW.cell (p := ⟨w.heap.size, 0, none⟩) (by simp; omega)).trans (by simp)
  have mm1 : World.cell? (w7.drewN nq) ⟨w.heap.size, 1, none⟩ = some (.int .i64 t) := (DW.cell (p := ⟨w.heap.size, 1, none⟩) (by simp; omega)).trans (by simp)
  have mm2 : World.cell? (w7.drewN nq) ⟨w.heap.size, 2, none⟩ = some (.int .i64 kd) := (DW.cell (p := ⟨w.heap.size, 2, none⟩) (by simp; omega)).trans (by simp)
  have mm3 : World.cell? (w7.drewN nq) ⟨w.heap.size, 3, none⟩ = some (.int .i64 d) := (DW.cell (p := ⟨w.heap.size, 3, none⟩) (by simp; omega)).trans (by simp)
  obtain ⟨ii, hi, hz0, hz1, hz2⟩ := info_parts infoWr
  go_wp2_with (first
    | (at_builtin; obtain ⟨va, wa, hra, owna, hga⟩ := append_wires l (.slice ao l.length cap) (w7.drewN nq) w.heap.size 22 (HL.out.all BW) hlen BW.size; refine wpList_append_eq rfl _ _ 22 rfl (.slice none 0 0) (.slice ao l.length cap) rfl rfl va wa hra ?_; clear hra
       have m0 := hga.cell mm0 (by simp)
       have m1 := hga.cell mm1 (by simp)
       have m2 := hga.cell mm2 (by simp)
       have m3 := hga.cell mm3 (by simp)
       have BW2 := BW.grown hga BW.size (by intro k hk; cases hk)
       clear hga mm0 mm1 mm2 mm3)
    | (at_builtin; refine wpList_append_own _ rfl _ _ 22 rfl w.heap.size 25 ii (.agg #[.int .i64 0, .int .i64 0, .int .i64 0, .int .i64 0]) 4 32 Try.underlying22 hi hz0 hz1 hz2 rfl (by decide) _ _ _ rfl (owna.alloc _) ⟨wa.heap.size, 0, none⟩ 1 1 [.int .i64 f, .int .i64 t, .int .i64 kd, .int .i64 d] rfl rfl ?c1A ?c2A ?c3A ?c4A ?c5A ?_))
  case c1A => exact wr_new rfl _ _ _ _ _
  case c2A => exact four_one f t kd d
  case c3A => unfold maxLen; omega
  case c4A => omega
  case c5A => have := BW2.size; simp; omega
  intro v2 w9 own2 hg9 _
  have hsa := BW2.size
  have B9 : Below w.heap.size w w9 := (BW2.alloc hsa _).grown hg9 (by simp; omega) (fun j hj => (owna.lt j hj).1)
  have qe := HE.out w9 v2 (wrs_of_own (base := w.heap.size) (by rw [wrCells_snoc, List.length_append]; exact own2))
  obtain ⟨g2, c2, rfl⟩ := own4_form own2
  clear HE own2 hg9 owna m0 m1 m2 m3
  by_cases hE : rchE (l ++ [(f, t, kd, d)]) a b = 0
  · rw [hE, show wErr 0 = .nilIface from rfl, HY.out hE] at qe
    clear hE HY
    go_wp2_with (go_at_call 5; refine qe.mono ?_; rintro e w10 ⟨rfl, b10⟩; clear qe)
    go_ret
    exact ⟨rfl, B9.trans (b10.mono B9.size)⟩
  · rw [wErr_not hE] at qe
    clear hE HY
    go_wp2_with (go_at_call 5; refine qe.mono ?_; rintro e w10 ⟨rfl, b10⟩; clear qe)
    go_ret
    exact ⟨rfl, B9.trans (b10.mono B9.size)⟩
set_option maxRecDepth 100000 in
set_option maxHeartbeats 8000000 in
theorem up_TF_no (l : List W4) (v u : Value) (lv : List Int) (a b c : Nat) (f t kd d : Int) (w : World) (hl : Wrs w v l) (hu : Stp w u lv) (h : (wschk l).2 = 0) (ha : a < 5) (hb : b < 5) (hc : c < 5) (hx : way l a b = true) (hy : way l b c = false) (hv : lvE l lv ≠ 0) :
    Calls Try.prog 3 #[v, .int .i64 a, .int .i64 b, .int .i64 c, u, wV f t kd d] w fun e w' => e = .returned (.bool true) ∧ Below w.heap.size w w' := by
  have HR1 : Hid (∀ W, Below w.heap.size w W → Calls Try.prog 5 #[v, .int .i64 a, .int .i64 b] W fun e w' => e = .returned (.tuple #[.bool true, .nilIface]) ∧ Below W.heap.size W w') := fun W hq => by
    have := reach_ok l v a b W (hl.all hq) h ha hb
    rw [hx] at this
    exact this
  have HR2 : Hid (∀ W, Below w.heap.size w W → Calls Try.prog 5 #[v, .int .i64 b, .int .i64 c] W fun e w' => e = .returned (.tuple #[.bool false, .nilIface]) ∧ Below W.heap.size W w') := fun W hq => by
    have := reach_ok l v b c W (hl.all hq) h hb hc
    rw [hy] at this
    exact this
  have HR3 : Hid (∀ W, Below w.heap.size w W → Calls Try.prog 5 #[v, .int .i64 a, .int .i64 c] W fun e w' => e = .returned (.tuple #[.bool (way l a c), .nilIface]) ∧ Below W.heap.size W w') := fun W hq => by
    have := reach_ok l v a c W (hl.all hq) h ha hc
    exact this
  have HR4 : Hid (∀ W, Below w.heap.size w W → Calls Try.prog 5 #[v, .int .i64 a, .int .i64 a] W fun e w' => e = .returned (.tuple #[.bool true, .nilIface]) ∧ Below W.heap.size W w') := fun W hq => by
    have := reach_ok l v a a W (hl.all hq) h ha ha
    rw [way_self] at this
    exact this
  have HLV : Hid (∀ W, Below w.heap.size w W → Calls Try.prog 6 #[v, u] W fun e w' => e = .returned (.iface 37 (.int .i64 (lvE l lv))) ∧ Below W.heap.size W w') := fun W hq => by
    have := levels_any l lv v u W (hl.all hq) (hu.all hq)
    rw [wErr_not hv] at this
    exact this
  have HE : Hid (∀ W v2, Wrs W v2 (l ++ [(f, t, kd, d)]) → Calls Try.prog 5 #[v2, .int .i64 a, .int .i64 b] W fun e w' => e = .returned (.tuple #[.bool (rchB (l ++ [(f, t, kd, d)]) a b), wErr (rchE (l ++ [(f, t, kd, d)]) a b)]) ∧ Below W.heap.size W w') := fun W v2 hq => reach_any _ v2 a b W hq
  have HY : Hid (rchE (l ++ [(f, t, kd, d)]) a b = 0 → rchB (l ++ [(f, t, kd, d)]) a b = true) := fun hq => by rw [rchB, if_pos hq, Int.toNat_natCast, Int.toNat_natCast]; exact way_more l _ hx
  have hlen := (wschk_ok h).1
  have HL : Hid (Wrs w v l) := hl
  obtain ⟨ao, cap, rfl⟩ := hl.form
  obtain ⟨lo, lc, rfl⟩ := hu.form
  unfold wV
  have HO : Hid (∀ k W, k = (w.alloc (.cells #[.int .i64 f, .int .i64 t, .int .i64 kd, .int .i64 d] 25)).heap.size → Below ((w.alloc (.cells #[.int .i64 f, .int .i64 t, .int .i64 kd, .int .i64 d] 25)).alloc (.cells #[.int .i64 0, .int .i64 1, .int .i64 1, .int .i64 1] 25)).heap.size ((w.alloc (.cells #[.int .i64 f, .int .i64 t, .int .i64 kd, .int .i64 d] 25)).alloc (.cells #[.int .i64 0, .int .i64 1, .int .i64 1, .int .i64 1] 25)) W → Wrs W (.slice (some ⟨k, 0, none⟩) 1 1) oneW) := fun k W hk hb => (one_wrs_at hk).all hb
  have BA : Below w.heap.size w ((w.alloc (.cells #[.int .i64 f, .int .i64 t, .int .i64 kd, .int .i64 d] 25)).alloc (.cells #[.int .i64 0, .int .i64 1, .int .i64 1, .int .i64 1] 25)) := ((Below.refl _ _).alloc (Nat.le_refl _) _).alloc (by simp) _
  have q1 := fun k hk => one_fact _ _ (HO.out k _ hk (Below.refl _ _))
  clear hl hu h hv hx hy
  go_enter Try.func3, Try.ntmps3
  go_wp2_with (first
    | (go_at_call 5; refine (q1 _ (by simp)).mono ?_; rintro e w1 ⟨rfl, b1⟩; clear q1; have q2 := fun k hk => one_back _ _ (HO.out k w1 hk b1); clear HO)
    | (go_at_call 5; refine (q2 _ (by simp)).mono ?_; rintro e w2 ⟨rfl, b2⟩; clear q2; have D2 := b1.trans (b2.mono b1.size); clear b1 b2; have q3 := HR1.out w2 (BA.trans (D2.mono BA.size)); clear HR1)
    | (go_at_call 5; refine q3.mono ?_; rintro e w3 ⟨rfl, b3⟩; clear q3; have D3 := D2.trans (b3.mono D2.size); clear D2 b3; have q4 := HR2.out w3 (BA.trans (D3.mono BA.size)); clear HR2)
    | (go_at_call 5; refine q4.mono ?_; rintro e w4 ⟨rfl, b4⟩; clear q4; have D4 := D3.trans (b4.mono D3.size); clear D3 b4; have q5 := HR3.out w4 (BA.trans (D4.mono BA.size)); clear HR3)
    | (go_at_call 5; refine q5.mono ?_; rintro e w5 ⟨rfl, b5⟩; clear q5; have D5 := D4.trans (b5.mono D4.size); clear D4 b5; have q6 := HR4.out w5 (BA.trans (D5.mono BA.size)); clear HR4)
    | (go_at_call 5; refine q6.mono ?_; rintro e w6 ⟨rfl, b6⟩; clear q6; have D6 := D5.trans (b6.mono D5.size); clear D5 b6; have q7 := HLV.out w6 (BA.trans (D6.mono BA.size)); clear HLV)
    | (go_at_call 6; refine q7.mono ?_; rintro e w7 ⟨rfl, b7⟩; clear q7; have DW := D6.trans (b7.mono D6.size); clear D6 b7; have BW := BA.trans (DW.mono BA.size); obtain ⟨ii, hi, hz0, hz1, hz2⟩ := info_parts infoWr; have mm0 : World.cell? (w7) ⟨w.heap.size, 0, none⟩ = some (.int .i64 f) := (DW.cell (p := ⟨w.heap.size, 0, none⟩) (by simp; omega)).trans (by simp); have mm1 : World.cell? (w7) ⟨w.heap.size, 1, none⟩ = some (.int .i64 t) := (DW.cell (p := ⟨w.heap.size, 1, none⟩) (by simp; omega)).trans (by simp); have mm2 : World.cell? (w7) ⟨w.heap.size, 2, none⟩ = some (.int .i64 kd) := (DW.cell (p := ⟨w.heap.size, 2, none⟩) (by simp; omega)).trans (by simp); have mm3 : World.cell? (w7) ⟨w.heap.size, 3, none⟩ = some (.int .i64 d) := (DW.cell (p := ⟨w.heap.size, 3, none⟩) (by simp; omega)).trans (by simp))
    | (at_builtin; obtain ⟨va, wa, hra, owna, hga⟩ := append_wires l (.slice ao l.length cap) (w7) w.heap.size 22 (HL.out.all BW) hlen BW.size; refine wpList_append_eq rfl _ _ 22 rfl (.slice none 0 0) (.slice ao l.length cap) rfl rfl va wa hra ?_; clear hra
       have m0 := hga.cell mm0 (by simp)
       have m1 := hga.cell mm1 (by simp)
       have m2 := hga.cell mm2 (by simp)
       have m3 := hga.cell mm3 (by simp)
       have BW2 := BW.grown hga BW.size (by intro k hk; cases hk)
       clear hga mm0 mm1 mm2 mm3)
    | (at_builtin; refine wpList_append_own _ rfl _ _ 22 rfl w.heap.size 25 ii (.agg #[.int .i64 0, .int .i64 0, .int .i64 0, .int .i64 0]) 4 32 Try.underlying22 hi hz0 hz1 hz2 rfl (by decide) _ _ _ rfl (owna.alloc _) ⟨wa.heap.size, 0, none⟩ 1 1 [.int .i64 f, .int .i64 t, .int .i64 kd, .int .i64 d] rfl rfl ?c1A ?c2A ?c3A ?c4A ?c5A ?_))
  case c1A => exact wr_new rfl _ _ _ _ _
  case c2A => exact four_one f t kd d
  case c3A => unfold maxLen; omega
  case c4A => omega
  case c5A => have := BW2.size; simp; omega
  intro v2 w9 own2 hg9 _
  have hsa := BW2.size
  have B9 : Below w.heap.size w w9 := (BW2.alloc hsa _).grown hg9 (by simp; omega) (fun j hj => (owna.lt j hj).1)
  have qe := HE.out w9 v2 (wrs_of_own (base := w.heap.size) (by rw [wrCells_snoc, List.length_append]; exact own2))
  obtain ⟨g2, c2, rfl⟩ := own4_form own2
  clear HE own2 hg9 owna m0 m1 m2 m3
  by_cases hE : rchE (l ++ [(f, t, kd, d)]) a b = 0
  · rw [hE, show wErr 0 = .nilIface from rfl, HY.out hE] at qe
    clear hE HY
    go_wp2_with (go_at_call 5; refine qe.mono ?_; rintro e w10 ⟨rfl, b10⟩; clear qe)
    go_ret
    exact ⟨rfl, B9.trans (b10.mono B9.size)⟩
  · rw [wErr_not hE] at qe
    clear hE HY
    go_wp2_with (go_at_call 5; refine qe.mono ?_; rintro e w10 ⟨rfl, b10⟩; clear qe)
    go_ret
    exact ⟨rfl, B9.trans (b10.mono B9.size)⟩
set_option maxRecDepth 100000 in
set_option maxHeartbeats 8000000 in
theorem up_TTT_ok (l : List W4) (v u : Value) (lv : List Int) (a b c : Nat) (f t kd d : Int) (w : World) (hl : Wrs w v l) (hu : Stp w u lv) (h : (wschk l).2 = 0) (ha : a < 5) (hb : b < 5) (hc : c < 5) (hx : way l a b = true) (hy : way l b c = true) (hv : lvE l lv = 0) :
    Calls Try.prog 3 #[v, .int .i64 a, .int .i64 b, .int .i64 c, u, wV f t kd d] w fun e w' => e = .returned (.bool true) ∧ Below w.heap.size w w' := by
  have HR1 : Hid (∀ W, Below w.heap.size w W → Calls Try.prog 5 #[v, .int .i64 a, .int .i64 b] W fun e w' => e = .returned (.tuple #[.bool true, .nilIface]) ∧ Below W.heap.size W w') := fun W hq => by
    have := reach_ok l v a b W (hl.all hq) h ha hb
    rw [hx] at this
    exact this
  have HR2 : Hid (∀ W, Below w.heap.size w W → Calls Try.prog 5 #[v, .int .i64 b, .int .i64 c] W fun e w' => e = .returned (.tuple #[.bool true, .nilIface]) ∧ Below W.heap.size W w') := fun W hq => by
    have := reach_ok l v b c W (hl.all hq) h hb hc
    rw [hy] at this
    exact this
  have HR3 : Hid (∀ W, Below w.heap.size w W → Calls Try.prog 5 #[v, .int .i64 a, .int .i64 c] W fun e w' => e = .returned (.tuple #[.bool true, .nilIface]) ∧ Below W.heap.size W w') := fun W hq => by
    have := reach_ok l v a c W (hl.all hq) h ha hc
    rw [way_trans l hb hx hy] at this
    exact this
  have HR4 : Hid (∀ W, Below w.heap.size w W → Calls Try.prog 5 #[v, .int .i64 a, .int .i64 a] W fun e w' => e = .returned (.tuple #[.bool true, .nilIface]) ∧ Below W.heap.size W w') := fun W hq => by
    have := reach_ok l v a a W (hl.all hq) h ha ha
    rw [way_self] at this
    exact this
  have HLV : Hid (∀ W, Below w.heap.size w W → Calls Try.prog 6 #[v, u] W fun e w' => e = .returned (.nilIface) ∧ Below W.heap.size W w') := fun W hq => by
    have := levels_any l lv v u W (hl.all hq) (hu.all hq)
    rw [hv, show wErr 0 = .nilIface from rfl] at this
    exact this
  have HE : Hid (∀ W v2, Wrs W v2 (l ++ [(f, t, kd, d)]) → Calls Try.prog 5 #[v2, .int .i64 a, .int .i64 b] W fun e w' => e = .returned (.tuple #[.bool (rchB (l ++ [(f, t, kd, d)]) a b), wErr (rchE (l ++ [(f, t, kd, d)]) a b)]) ∧ Below W.heap.size W w') := fun W v2 hq => reach_any _ v2 a b W hq
  have HY : Hid (rchE (l ++ [(f, t, kd, d)]) a b = 0 → rchB (l ++ [(f, t, kd, d)]) a b = true) := fun hq => by rw [rchB, if_pos hq, Int.toNat_natCast, Int.toNat_natCast]; exact way_more l _ hx
  have h5 := lv_five hv
  have hle : decide (lvl lv (b : Int) < lvl lv (a : Int)) = false := by have := (lv_way hv hx).2; simpa using this
  have hlen := (wschk_ok h).1
  have HL : Hid (Wrs w v l) := hl
  obtain ⟨ao, cap, rfl⟩ := hl.form
  obtain ⟨lo, lc, rfl⟩ := hu.form
  unfold wV
  have HO : Hid (∀ k W, k = (w.alloc (.cells #[.int .i64 f, .int .i64 t, .int .i64 kd, .int .i64 d] 25)).heap.size → Below ((w.alloc (.cells #[.int .i64 f, .int .i64 t, .int .i64 kd, .int .i64 d] 25)).alloc (.cells #[.int .i64 0, .int .i64 1, .int .i64 1, .int .i64 1] 25)).heap.size ((w.alloc (.cells #[.int .i64 f, .int .i64 t, .int .i64 kd, .int .i64 d] 25)).alloc (.cells #[.int .i64 0, .int .i64 1, .int .i64 1, .int .i64 1] 25)) W → Wrs W (.slice (some ⟨k, 0, none⟩) 1 1) oneW) := fun k W hk hb => (one_wrs_at hk).all hb
  have BA : Below w.heap.size w ((w.alloc (.cells #[.int .i64 f, .int .i64 t, .int .i64 kd, .int .i64 d] 25)).alloc (.cells #[.int .i64 0, .int .i64 1, .int .i64 1, .int .i64 1] 25)) := ((Below.refl _ _).alloc (Nat.le_refl _) _).alloc (by simp) _
  obtain ⟨lb, lf, rfl, hlv⟩ := Stp.lv hu h5
  have HV : Hid (∀ wr, Below w.heap.size w wr → ∀ r : Nat, r < 5 → wr.cell? ⟨lb, lf + r, none⟩ = some (.int .i64 (lvl lv r))) := hlv
  rw [h5] at HLV ⊢
  clear hlv h5
  have e1 : decide (4 < (a : Int)) = false := by simp; omega
  have e2 : decide (4 < (b : Int)) = false := by simp; omega
  have e3 : decide (4 < a) = false := by simp; omega
  have e4 : decide (4 < b) = false := by simp; omega
  have e7 : decide ((a : Int) < 0) = false := by simp
  have e8 : decide ((b : Int) < 0) = false := by simp
  have e5 : (a : Int) < 5 := by omega
  have e6 : (b : Int) < 5 := by omega
  have q1 := fun k hk => one_fact _ _ (HO.out k _ hk (Below.refl _ _))
  clear hl hu h hv hx hy
  go_enter Try.func3, Try.ntmps3
  go_wp2_with (first
    | (go_at_call 5; refine (q1 _ (by simp)).mono ?_; rintro e w1 ⟨rfl, b1⟩; clear q1; have q2 := fun k hk => one_back _ _ (HO.out k w1 hk b1); clear HO)
    | (go_at_call 5; refine (q2 _ (by simp)).mono ?_; rintro e w2 ⟨rfl, b2⟩; clear q2; have D2 := b1.trans (b2.mono b1.size); clear b1 b2; have q3 := HR1.out w2 (BA.trans (D2.mono BA.size)); clear HR1)
    | (go_at_call 5; refine q3.mono ?_; rintro e w3 ⟨rfl, b3⟩; clear q3; have D3 := D2.trans (b3.mono D2.size); clear D2 b3; have q4 := HR2.out w3 (BA.trans (D3.mono BA.size)); clear HR2)
    | (go_at_call 5; refine q4.mono ?_; rintro e w4 ⟨rfl, b4⟩; clear q4; have D4 := D3.trans (b4.mono D3.size); clear D3 b4; have q5 := HR3.out w4 (BA.trans (D4.mono BA.size)); clear HR3)
    | (go_at_call 5; refine q5.mono ?_; rintro e w5 ⟨rfl, b5⟩; clear q5; have D5 := D4.trans (b5.mono D4.size); clear D4 b5; have q6 := HR4.out w5 (BA.trans (D5.mono BA.size)); clear HR4)
    | (go_at_call 5; refine q6.mono ?_; rintro e w6 ⟨rfl, b6⟩; clear q6; have D6 := D5.trans (b6.mono D5.size); clear D5 b6; have q7 := HLV.out w6 (BA.trans (D6.mono BA.size)); clear HLV)
    | (go_at_call 6; refine q7.mono ?_; rintro e w7 ⟨rfl, b7⟩; clear q7; have D7 := D6.trans (b7.mono D6.size); clear D6 b7; have BW7 := BA.trans (D7.mono BA.size); have d0 := HV.out w7 BW7 a ha; have d1 := HV.out w7 BW7 b hb; clear HV))
  generalize lvl lv (a : Int) = la at d0 hle
  generalize lvl lv (b : Int) = lb' at d1 hle
  go_quiet (fail)
  have DW := below_dN D7 nq
  have BW := below_dN BW7 nq
  have mm0 : World.cell? (w7.drewN nq) ⟨w.heap.size, 0, none⟩ = some (.int .i64 f) := (DW.cell (p := ⟨w.heap.size, 0, none⟩) (by simp; omega)).trans (by simp)
  have mm1 : World.cell? (w7.drewN nq) ⟨w.heap.size, 1, none⟩ = some (.int .i64 t) := (DW.cell (p := ⟨w.heap.size, 1, none⟩) (by simp; omega)).trans (by simp)
  have mm2 : World.cell? (w7.drewN nq) ⟨w.heap.size, 2, none⟩ = some (.int .i64 kd) := (DW.cell (p := ⟨w.heap.size, 2, none⟩) (by simp; omega)).trans (by simp)
  have mm3 : World.cell? (w7.drewN nq) ⟨w.heap.size, 3, none⟩ = some (.int .i64 d) := (DW.cell (p := ⟨w.heap.size, 3, none⟩) (by simp; omega)).trans (by simp)
  obtain ⟨ii, hi, hz0, hz1, hz2⟩ := info_parts infoWr
  go_wp2_with (first
    | (at_builtin; obtain ⟨va, wa, hra, owna, hga⟩ := append_wires l (.slice ao l.length cap) (w7.drewN nq) w.heap.size 22 (HL.out.all BW) hlen BW.size; refine wpList_append_eq rfl _ _ 22 rfl (.slice none 0 0) (.slice ao l.length cap) rfl rfl va wa hra ?_; clear hra
       have m0 := hga.cell mm0 (by simp)
       have m1 := hga.cell mm1 (by simp)
       have m2 := hga.cell mm2 (by simp)
       have m3 := hga.cell mm3 (by simp)
       have BW2 := BW.grown hga BW.size (by intro k hk; cases hk)
       clear hga mm0 mm1 mm2 mm3)
    | (at_builtin; refine wpList_append_own _ rfl _ _ 22 rfl w.heap.size 25 ii (.agg #[.int .i64 0, .int .i64 0, .int .i64 0, .int .i64 0]) 4 32 Try.underlying22 hi hz0 hz1 hz2 rfl (by decide) _ _ _ rfl (owna.alloc _) ⟨wa.heap.size, 0, none⟩ 1 1 [.int .i64 f, .int .i64 t, .int .i64 kd, .int .i64 d] rfl rfl ?c1A ?c2A ?c3A ?c4A ?c5A ?_))
  case c1A => exact wr_new rfl _ _ _ _ _
  case c2A => exact four_one f t kd d
  case c3A => unfold maxLen; omega
  case c4A => omega
  case c5A => have := BW2.size; simp; omega
  intro v2 w9 own2 hg9 _
  have hsa := BW2.size
  have B9 : Below w.heap.size w w9 := (BW2.alloc hsa _).grown hg9 (by simp; omega) (fun j hj => (owna.lt j hj).1)
  have qe := HE.out w9 v2 (wrs_of_own (base := w.heap.size) (by rw [wrCells_snoc, List.length_append]; exact own2))
  obtain ⟨g2, c2, rfl⟩ := own4_form own2
  clear HE own2 hg9 owna m0 m1 m2 m3
  by_cases hE : rchE (l ++ [(f, t, kd, d)]) a b = 0
  · rw [hE, show wErr 0 = .nilIface from rfl, HY.out hE] at qe
    clear hE HY
    go_wp2_with (go_at_call 5; refine qe.mono ?_; rintro e w10 ⟨rfl, b10⟩; clear qe)
    go_ret
    exact ⟨rfl, B9.trans (b10.mono B9.size)⟩
  · rw [wErr_not hE] at qe
    clear hE HY
    go_wp2_with (go_at_call 5; refine qe.mono ?_; rintro e w10 ⟨rfl, b10⟩; clear qe)
    go_ret
    exact ⟨rfl, B9.trans (b10.mono B9.size)⟩
set_option maxRecDepth 100000 in
set_option maxHeartbeats 8000000 in
theorem up_TTT_no (l : List W4) (v u : Value) (lv : List Int) (a b c : Nat) (f t kd d : Int) (w : World) (hl : Wrs w v l) (hu : Stp w u lv) (h : (wschk l).2 = 0) (ha : a < 5) (hb : b < 5) (hc : c < 5) (hx : way l a b = true) (hy : way l b c = true) (hv : lvE l lv ≠ 0) :
    Calls Try.prog 3 #[v, .int .i64 a, .int .i64 b, .int .i64 c, u, wV f t kd d] w fun e w' => e = .returned (.bool true) ∧ Below w.heap.size w w' := by
  have HR1 : Hid (∀ W, Below w.heap.size w W → Calls Try.prog 5 #[v, .int .i64 a, .int .i64 b] W fun e w' => e = .returned (.tuple #[.bool true, .nilIface]) ∧ Below W.heap.size W w') := fun W hq => by
    have := reach_ok l v a b W (hl.all hq) h ha hb
    rw [hx] at this
    exact this
  have HR2 : Hid (∀ W, Below w.heap.size w W → Calls Try.prog 5 #[v, .int .i64 b, .int .i64 c] W fun e w' => e = .returned (.tuple #[.bool true, .nilIface]) ∧ Below W.heap.size W w') := fun W hq => by
    have := reach_ok l v b c W (hl.all hq) h hb hc
    rw [hy] at this
    exact this
  have HR3 : Hid (∀ W, Below w.heap.size w W → Calls Try.prog 5 #[v, .int .i64 a, .int .i64 c] W fun e w' => e = .returned (.tuple #[.bool true, .nilIface]) ∧ Below W.heap.size W w') := fun W hq => by
    have := reach_ok l v a c W (hl.all hq) h ha hc
    rw [way_trans l hb hx hy] at this
    exact this
  have HR4 : Hid (∀ W, Below w.heap.size w W → Calls Try.prog 5 #[v, .int .i64 a, .int .i64 a] W fun e w' => e = .returned (.tuple #[.bool true, .nilIface]) ∧ Below W.heap.size W w') := fun W hq => by
    have := reach_ok l v a a W (hl.all hq) h ha ha
    rw [way_self] at this
    exact this
  have HLV : Hid (∀ W, Below w.heap.size w W → Calls Try.prog 6 #[v, u] W fun e w' => e = .returned (.iface 37 (.int .i64 (lvE l lv))) ∧ Below W.heap.size W w') := fun W hq => by
    have := levels_any l lv v u W (hl.all hq) (hu.all hq)
    rw [wErr_not hv] at this
    exact this
  have HE : Hid (∀ W v2, Wrs W v2 (l ++ [(f, t, kd, d)]) → Calls Try.prog 5 #[v2, .int .i64 a, .int .i64 b] W fun e w' => e = .returned (.tuple #[.bool (rchB (l ++ [(f, t, kd, d)]) a b), wErr (rchE (l ++ [(f, t, kd, d)]) a b)]) ∧ Below W.heap.size W w') := fun W v2 hq => reach_any _ v2 a b W hq
  have HY : Hid (rchE (l ++ [(f, t, kd, d)]) a b = 0 → rchB (l ++ [(f, t, kd, d)]) a b = true) := fun hq => by rw [rchB, if_pos hq, Int.toNat_natCast, Int.toNat_natCast]; exact way_more l _ hx
  have hlen := (wschk_ok h).1
  have HL : Hid (Wrs w v l) := hl
  obtain ⟨ao, cap, rfl⟩ := hl.form
  obtain ⟨lo, lc, rfl⟩ := hu.form
  unfold wV
  have HO : Hid (∀ k W, k = (w.alloc (.cells #[.int .i64 f, .int .i64 t, .int .i64 kd, .int .i64 d] 25)).heap.size → Below ((w.alloc (.cells #[.int .i64 f, .int .i64 t, .int .i64 kd, .int .i64 d] 25)).alloc (.cells #[.int .i64 0, .int .i64 1, .int .i64 1, .int .i64 1] 25)).heap.size ((w.alloc (.cells #[.int .i64 f, .int .i64 t, .int .i64 kd, .int .i64 d] 25)).alloc (.cells #[.int .i64 0, .int .i64 1, .int .i64 1, .int .i64 1] 25)) W → Wrs W (.slice (some ⟨k, 0, none⟩) 1 1) oneW) := fun k W hk hb => (one_wrs_at hk).all hb
  have BA : Below w.heap.size w ((w.alloc (.cells #[.int .i64 f, .int .i64 t, .int .i64 kd, .int .i64 d] 25)).alloc (.cells #[.int .i64 0, .int .i64 1, .int .i64 1, .int .i64 1] 25)) := ((Below.refl _ _).alloc (Nat.le_refl _) _).alloc (by simp) _
  have q1 := fun k hk => one_fact _ _ (HO.out k _ hk (Below.refl _ _))
  clear hl hu h hv hx hy
  go_enter Try.func3, Try.ntmps3
  go_wp2_with (first
    | (go_at_call 5; refine (q1 _ (by simp)).mono ?_; rintro e w1 ⟨rfl, b1⟩; clear q1; have q2 := fun k hk => one_back _ _ (HO.out k w1 hk b1); clear HO)
    | (go_at_call 5; refine (q2 _ (by simp)).mono ?_; rintro e w2 ⟨rfl, b2⟩; clear q2; have D2 := b1.trans (b2.mono b1.size); clear b1 b2; have q3 := HR1.out w2 (BA.trans (D2.mono BA.size)); clear HR1)
    | (go_at_call 5; refine q3.mono ?_; rintro e w3 ⟨rfl, b3⟩; clear q3; have D3 := D2.trans (b3.mono D2.size); clear D2 b3; have q4 := HR2.out w3 (BA.trans (D3.mono BA.size)); clear HR2)
    | (go_at_call 5; refine q4.mono ?_; rintro e w4 ⟨rfl, b4⟩; clear q4; have D4 := D3.trans (b4.mono D3.size); clear D3 b4; have q5 := HR3.out w4 (BA.trans (D4.mono BA.size)); clear HR3)
    | (go_at_call 5; refine q5.mono ?_; rintro e w5 ⟨rfl, b5⟩; clear q5; have D5 := D4.trans (b5.mono D4.size); clear D4 b5; have q6 := HR4.out w5 (BA.trans (D5.mono BA.size)); clear HR4)
    | (go_at_call 5; refine q6.mono ?_; rintro e w6 ⟨rfl, b6⟩; clear q6; have D6 := D5.trans (b6.mono D5.size); clear D5 b6; have q7 := HLV.out w6 (BA.trans (D6.mono BA.size)); clear HLV)
    | (go_at_call 6; refine q7.mono ?_; rintro e w7 ⟨rfl, b7⟩; clear q7; have DW := D6.trans (b7.mono D6.size); clear D6 b7; have BW := BA.trans (DW.mono BA.size); obtain ⟨ii, hi, hz0, hz1, hz2⟩ := info_parts infoWr; have mm0 : World.cell? (w7) ⟨w.heap.size, 0, none⟩ = some (.int .i64 f) := (DW.cell (p := ⟨w.heap.size, 0, none⟩) (by simp; omega)).trans (by simp); have mm1 : World.cell? (w7) ⟨w.heap.size, 1, none⟩ = some (.int .i64 t) := (DW.cell (p := ⟨w.heap.size, 1, none⟩) (by simp; omega)).trans (by simp); have mm2 : World.cell? (w7) ⟨w.heap.size, 2, none⟩ = some (.int .i64 kd) := (DW.cell (p := ⟨w.heap.size, 2, none⟩) (by simp; omega)).trans (by simp); have mm3 : World.cell? (w7) ⟨w.heap.size, 3, none⟩ = some (.int .i64 d) := (DW.cell (p := ⟨w.heap.size, 3, none⟩) (by simp; omega)).trans (by simp))
    | (at_builtin; obtain ⟨va, wa, hra, owna, hga⟩ := append_wires l (.slice ao l.length cap) (w7) w.heap.size 22 (HL.out.all BW) hlen BW.size; refine wpList_append_eq rfl _ _ 22 rfl (.slice none 0 0) (.slice ao l.length cap) rfl rfl va wa hra ?_; clear hra
       have m0 := hga.cell mm0 (by simp)
       have m1 := hga.cell mm1 (by simp)
       have m2 := hga.cell mm2 (by simp)
       have m3 := hga.cell mm3 (by simp)
       have BW2 := BW.grown hga BW.size (by intro k hk; cases hk)
       clear hga mm0 mm1 mm2 mm3)
    | (at_builtin; refine wpList_append_own _ rfl _ _ 22 rfl w.heap.size 25 ii (.agg #[.int .i64 0, .int .i64 0, .int .i64 0, .int .i64 0]) 4 32 Try.underlying22 hi hz0 hz1 hz2 rfl (by decide) _ _ _ rfl (owna.alloc _) ⟨wa.heap.size, 0, none⟩ 1 1 [.int .i64 f, .int .i64 t, .int .i64 kd, .int .i64 d] rfl rfl ?c1A ?c2A ?c3A ?c4A ?c5A ?_))
  case c1A => exact wr_new rfl _ _ _ _ _
  case c2A => exact four_one f t kd d
  case c3A => unfold maxLen; omega
  case c4A => omega
  case c5A => have := BW2.size; simp; omega
  intro v2 w9 own2 hg9 _
  have hsa := BW2.size
  have B9 : Below w.heap.size w w9 := (BW2.alloc hsa _).grown hg9 (by simp; omega) (fun j hj => (owna.lt j hj).1)
  have qe := HE.out w9 v2 (wrs_of_own (base := w.heap.size) (by rw [wrCells_snoc, List.length_append]; exact own2))
  obtain ⟨g2, c2, rfl⟩ := own4_form own2
  clear HE own2 hg9 owna m0 m1 m2 m3
  by_cases hE : rchE (l ++ [(f, t, kd, d)]) a b = 0
  · rw [hE, show wErr 0 = .nilIface from rfl, HY.out hE] at qe
    clear hE HY
    go_wp2_with (go_at_call 5; refine qe.mono ?_; rintro e w10 ⟨rfl, b10⟩; clear qe)
    go_ret
    exact ⟨rfl, B9.trans (b10.mono B9.size)⟩
  · rw [wErr_not hE] at qe
    clear hE HY
    go_wp2_with (go_at_call 5; refine qe.mono ?_; rintro e w10 ⟨rfl, b10⟩; clear qe)
    go_ret
    exact ⟨rfl, B9.trans (b10.mono B9.size)⟩
end Go.Proofs.Ytpbdfcfifkonkac

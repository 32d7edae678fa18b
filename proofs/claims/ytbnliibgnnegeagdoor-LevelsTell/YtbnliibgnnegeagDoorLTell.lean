/-
  The law LevelsTell, of what package levels promises.
-/
import Derived.Test.YtbnliibgnnegeagDoorLevCL
import Derived.Test.YtbnliibgnnegeagDoorLevCR
import Derived.Test.YtbnliibgnnegeagDoorLevCA
import Derived.Test.YtbnliibgnnegeagDoorRLevel
import Derived.Test.YtbnliibgnnegeagDoorRRings
import Derived.Test.YtbnliibgnnegeagDoorRefFlow
import Derived.Test.YtbnliibgnnegeagDoorListsL
namespace Go.Proofs.YtbnliibgnnegeagDoor
open Go.RowKit

theorem ringsL_small (l : List W4) : (ringsL l).length ≤ 1000000 ∧ ∀ g ∈ ringsL l, g.length ≤ 1000000 := by
  refine ⟨by have := ringsTo_len l 5; show (ringsTo l 5).length ≤ _; omega, fun g hg => ?_⟩
  obtain ⟨i, hi⟩ := List.mem_iff_getElem?.1 hg
  obtain ⟨b, _, _, e, _⟩ := ringsTo_at l 5 i g hi
  rw [e]
  have := grpTo_len l b 5
  show (grpTo l b 5).length ≤ _
  omega
theorem lvs_take (l : List W4) : ∀ k, k < 5 → (levs l).take (k + 1) = (levs l).take k ++ [(lev l k : Int)] := fun k hk => by
  match k, hk with
  | 0, _ => rfl
  | 1, _ => rfl
  | 2, _ => rfl
  | 3, _ => rfl
  | 4, _ => rfl
theorem lvs_tlen (l : List W4) : ∀ k, k ≤ 5 → ((levs l).take k).length = k := fun k hk => by
  rw [List.length_take, show (levs l).length = 5 from rfl]
  omega
set_option maxRecDepth 100000 in
set_option maxHeartbeats 16000000 in
theorem ltell_bad {G : World → Prop} (hall : ∀ w w', G w → Below w.heap.size w w' → G w') (hL : LevLeast G) (hR : LevRings G) (hA : LevApart G) (hE : ∀ (e : Int) (W : World), G W → Calls Tryd.prog 9 #[wErr e, .int .i64 e] W fun r w' => r = .returned (.bool true) ∧ Below W.heap.size W w')
    (l : List W4) (v : Value) (a b : Int) (w : World) (hG : G w) (hl : Wrs w v l) (h : (wschk l).2 ≠ 0) : Calls Tryd.prog 3 #[v, .int .i64 a, .int .i64 b] w fun e w' => e = .returned (.bool true) ∧ Below w.heap.size w w' := by
  have hw := refwires_any l v w hl
  have HR : Hid (∀ W, Below w.heap.size w W → Calls Tryd.prog 8 #[v] W fun e w' => ∃ ua uc, e = .returned (.tuple #[.slice ua 0 uc, .iface 53 (.int .i64 (wschk l).2)]) ∧ Below W.heap.size W w') := fun W hb => by
    refine (hR l _ W (hall _ _ hG hb) (hl.all hb)).mono ?_
    rintro e w' ⟨uu, rfl, hu, hb⟩
    unfold ringsE at hu
    rw [if_neg h] at hu
    obtain ⟨ua, uc, rfl⟩ := hu.form
    exact ⟨ua, uc, by rw [wErr_not h]; rfl, hb⟩
  have HL : Hid (∀ W, Below w.heap.size w W → Calls Tryd.prog 11 #[v] W fun e w' => ∃ ua uc, e = .returned (.tuple #[.slice ua 0 uc, .iface 53 (.int .i64 (wschk l).2)]) ∧ Below W.heap.size W w') := fun W hb => by
    refine (hL l _ W (hall _ _ hG hb) (hl.all hb)).mono ?_
    rintro e w' ⟨uu, rfl, hu, hb⟩
    unfold levsE at hu
    rw [if_neg h] at hu
    obtain ⟨ua, uc, rfl⟩ := hu.form
    exact ⟨ua, uc, by rw [wErr_not h]; rfl, hb⟩
  have HA : Hid (∀ W, Below w.heap.size w W → Calls Tryd.prog 14 #[v, .int .i64 a, .int .i64 b] W fun e w' => e = .returned (.tuple #[.bool false, .iface 53 (.int .i64 (wschk l).2)]) ∧ Below W.heap.size W w') := fun W hb => by
    have e1 : apE l a b = (wschk l).2 := by unfold apE; rw [if_neg h]
    have e2 : apB l a b = false := by unfold apB; rw [e1, if_neg h]
    have := hA l v a b W (hall _ _ hG hb) (hl.all hb)
    rw [e1, e2, wErr_not h] at this
    exact this
  have HX : Hid (∀ W, Below w.heap.size w W → Calls Tryd.prog 9 #[.iface 53 (.int .i64 (wschk l).2), .int .i64 (wschk l).2] W fun r w' => r = .returned (.bool true) ∧ Below W.heap.size W w') := fun W hb => by
    have := hE (wschk l).2 W (hall _ _ hG hb)
    rw [wErr_not h] at this
    exact this
  have HLs : Hid (∀ W ua uc, Calls Tryd.prog 10 #[.slice ua 0 uc, .slice none 0 0] W fun e w' => e = .returned (.bool true) ∧ Below W.heap.size W w') := fun W ua uc => lists_any _ _ [] W (Or.inl ⟨rfl, _, _, rfl⟩) (Or.inl ⟨rfl, _, _, rfl⟩) (by simp) (by simp)
  have HI : Hid (∀ W ua uc, Calls Tryd.prog 12 #[.slice ua 0 uc, .slice none 0 0] W fun e w' => e = .returned (.bool true) ∧ Below W.heap.size W w') := fun W ua uc => wints_nil ua none uc 0 W
  have hqb : ((wschk l).2 == 0) = false := by simpa using h
  have hqd : decide ((wschk l).2 = 0) = false := by simpa using h
  generalize (wschk l).2 = q at *
  generalize (wschk l).1 = p at *
  obtain ⟨va, vc, rfl⟩ := hl.form
  clear hl hL hR hA hE h
  go_enter Tryd.func3, Tryd.ntmps3
  go_wp2_with (first
    | (go_at_call 5; refine hw.mono ?_; rintro e w1 ⟨rfl, B1⟩; clear hw; have q2 := HR.out w1 B1; clear HR)
    | (go_at_call 8; refine q2.mono ?_; rintro e w2 ⟨ua, uc, rfl, b2⟩; clear q2; have B2 := B1.trans (b2.mono B1.size); clear b2; have q3 := HX.out w2 B2)
    | (go_at_call 9; refine q3.mono ?_; rintro e w3 ⟨rfl, b3⟩; clear q3; have B3 := B2.trans (b3.mono B2.size); clear b3; have q4 := HLs.out w3 ua uc; clear HLs)
    | (go_at_call 10; refine q4.mono ?_; rintro e w4 ⟨rfl, b4⟩; clear q4; have B4 := B3.trans (b4.mono B3.size); clear b4; have q5 := HL.out w4 B4; clear HL)
    | (go_at_call 11; refine q5.mono ?_; rintro e w5 ⟨ya, yc, rfl, b5⟩; clear q5; have B5 := B4.trans (b5.mono B4.size); clear b5; have q6 := HX.out w5 B5)
    | (go_at_call 9; refine q6.mono ?_; rintro e w6 ⟨rfl, b6⟩; clear q6; have B6 := B5.trans (b6.mono B5.size); clear b6; have q7 := HI.out w6 ya yc; clear HI)
    | (go_at_call 12; refine q7.mono ?_; rintro e w7 ⟨rfl, b7⟩; clear q7; have B7 := B6.trans (b7.mono B6.size); clear b7; have q8 := HA.out w7 B7; clear HA)
    | (go_at_call 14; refine q8.mono ?_; rintro e w8 ⟨rfl, b8⟩; clear q8; have B8 := B7.trans (b8.mono B7.size); clear b8; have q9 := HX.out w8 B8; clear HX)
    | (go_at_call 9; refine q9.mono ?_; rintro e w9 ⟨rfl, b9⟩; clear q9; have B9 := B8.trans (b9.mono B8.size); clear b9))
  go_ret
  exact ⟨by simp, B9⟩
set_option maxRecDepth 100000 in
set_option maxHeartbeats 16000000 in
theorem ltell_out {G : World → Prop} (hall : ∀ w w', G w → Below w.heap.size w w' → G w') (hL : LevLeast G) (hR : LevRings G) (hA : LevApart G) (hE : ∀ (e : Int) (W : World), G W → Calls Tryd.prog 9 #[wErr e, .int .i64 e] W fun r w' => r = .returned (.bool true) ∧ Below W.heap.size W w')
    (l : List W4) (v : Value) (a b : Int) (w : World) (hG : G w) (hl : Wrs w v l) (h : (wschk l).2 = 0) (hout : a < 0 ∨ 4 < a ∨ b < 0 ∨ 4 < b) : Calls Tryd.prog 3 #[v, .int .i64 a, .int .i64 b] w fun e w' => e = .returned (.bool true) ∧ Below w.heap.size w w' := by
  have hw := refwires_any l v w hl
  have hok := wschk_ok h
  have HRR : Hid (∀ W, Below w.heap.size w W → Calls Tryd.prog 6 #[v] W fun e w' => ∃ ra rc, e = .returned (.slice ra (ringsL l).length rc) ∧ Hid (Sts w' (.slice ra (ringsL l).length rc) (ringsL l)) ∧ Below W.heap.size W w') := fun W hb => by
    refine (rrings_any l v W (hl.all hb) hok.1 hok.2).mono ?_
    rintro e w' ⟨uu, rfl, hu, hb⟩
    obtain ⟨ra, rc, rfl⟩ := hu.form
    exact ⟨ra, rc, rfl, hu, hb⟩
  have HLv : Hid (∀ W (r : Nat), r < 5 → Below w.heap.size w W → Calls Tryd.prog 7 #[v, .int .i64 r] W fun e w' => e = .returned (.int .i64 (lev l r : Int)) ∧ Below W.heap.size W w') := fun W r hr hb => rlevel_any l v hok.1 hok.2 r W hr (hl.all hb)
  have HR : Hid (∀ W, Below w.heap.size w W → Calls Tryd.prog 8 #[v] W fun e w' => ∃ ua uc, e = .returned (.tuple #[.slice ua (ringsL l).length uc, .nilIface]) ∧ Hid (Sts w' (.slice ua (ringsL l).length uc) (ringsL l)) ∧ Below W.heap.size W w') := fun W hb => by
    refine (hR l _ W (hall _ _ hG hb) (hl.all hb)).mono ?_
    rintro e w' ⟨uu, rfl, hu, hb⟩
    unfold ringsE at hu
    rw [if_pos h] at hu
    obtain ⟨ua, uc, rfl⟩ := hu.form
    exact ⟨ua, uc, by rw [h]; rfl, hu, hb⟩
  have HL : Hid (∀ W, Below w.heap.size w W → Calls Tryd.prog 11 #[v] W fun e w' => ∃ ua uc, e = .returned (.tuple #[.slice ua 5 uc, .nilIface]) ∧ Hid (Stp w' (.slice ua 5 uc) (levs l)) ∧ Below W.heap.size W w') := fun W hb => by
    refine (hL l _ W (hall _ _ hG hb) (hl.all hb)).mono ?_
    rintro e w' ⟨uu, rfl, hu, hb⟩
    unfold levsE at hu
    rw [if_pos h] at hu
    obtain ⟨ua, uc, rfl⟩ := hu.form
    exact ⟨ua, uc, by rw [h]; rfl, hu, hb⟩
  have HX : Hid (∀ W, Below w.heap.size w W → Calls Tryd.prog 9 #[.nilIface, .int .i64 0] W fun r w' => r = .returned (.bool true) ∧ Below W.heap.size W w') := fun W hb => hE 0 W (hall _ _ hG hb)
  have HX1 : Hid (∀ W, Below w.heap.size w W → Calls Tryd.prog 9 #[.iface 53 (.int .i64 1), .int .i64 1] W fun r w' => r = .returned (.bool true) ∧ Below W.heap.size W w') := fun W hb => hE 1 W (hall _ _ hG hb)
  have HA : Hid (∀ W, Below w.heap.size w W → Calls Tryd.prog 14 #[v, .int .i64 a, .int .i64 b] W fun e w' => e = .returned (.tuple #[.bool (apB l a b), wErr (apE l a b)]) ∧ Below W.heap.size W w') := fun W hb => hA l v a b W (hall _ _ hG hb) (hl.all hb)
  have HLs : Hid (∀ W ua uc ra rc, Sts W (.slice ua (ringsL l).length uc) (ringsL l) → Sts W (.slice ra (ringsL l).length rc) (ringsL l) → Calls Tryd.prog 10 #[.slice ua (ringsL l).length uc, .slice ra (ringsL l).length rc] W fun e w' => e = .returned (.bool true) ∧ Below W.heap.size W w') := fun W ua uc ra rc h1 h2 => lists_any _ _ _ W h1 h2 (ringsL_small l).1 (ringsL_small l).2
  have HI : Hid (∀ W ua uc ra rc, Stp W (.slice ua 5 uc) (levs l) → Stp W (.slice ra 5 rc) (levs l) → Calls Tryd.prog 12 #[.slice ua 5 uc, .slice ra 5 rc] W fun e w' => e = .returned (.bool true) ∧ Below W.heap.size W w') := fun W ua uc ra rc h1 h2 => stp_ints h1 h2 (by show 5 ≤ _; omega)
  have HW : Hid (∀ W, Below w.heap.size w W → Calls Tryd.prog 13 #[v] W fun e w' => e = .returned (.agg (wayCells l).toArray) ∧ Below W.heap.size W w') := fun W hb => ways_any l v W (hl.all hb) hok.1 hok.2
  have HAE : Hid (apE l a b = if (a : Int) < 0 ∨ (4 : Int) < a ∨ (b : Int) < 0 ∨ (4 : Int) < b then 1 else 0) := by show apE l a b = _; unfold apE; rw [if_pos h]
  obtain ⟨ii, hi, hz0, hz1, hz2⟩ := info_parts infoInt
  rw [h] at hw
  generalize (wschk l).1 = p at hw
  obtain ⟨va, vc, rfl⟩ := hl.form
  obtain ⟨n, hn⟩ : ∃ n, (ringsL l).length = n := ⟨_, rfl⟩
  rw [hn] at HRR HR HLs
  clear hl hL hR hA hE h hok hn
  go_enter Tryd.func3, Tryd.ntmps3
  go_upto_region 7 with (first
    | (go_at_call 5; refine hw.mono ?_; rintro e w1 ⟨rfl, B1⟩; clear hw; have q2 := HRR.out w1 B1; clear HRR)
    | (go_at_call 6; refine q2.mono ?_; rintro e w2 ⟨ra, rc, rfl, HS2, b2⟩; clear q2; have B2 := B1.trans (b2.mono B1.size); clear b2))
  go_loopw [10, 11] (fun s10 s11 wr => ∃ k : Nat, k ≤ 5 ∧ s11 = .int .i64 k ∧ wr.ownsRow w2.heap.size 3 1 s10 k (ints ((levs l).take k)) ∧ Below w2.heap.size w2 wr) (fun _ s11 _ => 5 - (intOf s11).toNat)
  case atStart => exact ⟨0, Nat.zero_le _, rfl, World.ownsRow_nil _ _ _ _, Below.refl _ _⟩
  case round =>
  obtain ⟨k, hk, rfl, own, hB⟩ := hrel
  have bW := B2.trans (hB.mono B2.size)
  by_cases hk5 : k < 5
  · have hki : (k : Int) < 5 := by omega
    have q3 := HLv.out wr k hk5 bW
    have HY : Hid ((levs l).take (k + 1) = (levs l).take k ++ [(lev l k : Int)]) := lvs_take l k hk5
    generalize (lev l k : Int) = lk at q3 HY
    go_wp2_with (first
      | (go_at_call 7; refine q3.mono ?_; rintro e w3 ⟨rfl, b3⟩; clear q3; have own3 := own_below own b3 (Nat.le_refl _); have hB3 := hB.trans (b3.mono hB.size); have hsz := hB3.size)
      | (at_builtin; refine wpList_append_own _ rfl _ _ 26 rfl w2.heap.size 3 ii (.int .i64 0) 1 8 Tryd.underlying26 hi hz0 hz1 hz2 rfl (by decide) _ _ _ rfl (own3.alloc _) ⟨w3.heap.size, 0, none⟩ 1 1 [.int .i64 lk] rfl rfl ?c1A ?c2A ?c3A ?c4A ?c5A ?_))
    case c1A => exact one_new_at rfl _ _
    case c2A => exact one_one lk
    case c3A => unfold maxLen; omega
    case c4A => omega
    case c5A => simp; omega
    intro v1 w4 own4 hg4 _
    have hB4 : Below w2.heap.size w2 w4 := (hB3.alloc hB3.size _).grown hg4 (by simp; omega) (fun j hj => (own3.lt j hj).1)
    have HO : Hid (w4.ownsRow w2.heap.size 3 1 v1 (k + 1) (ints ((levs l).take (k + 1)))) := by
      show World.ownsRow _ _ _ _ _ _ _
      rw [HY.out, ints_snoc]
      exact own4
    clear own own3 own4 hg4
    go_wp2
    go_roundw
    case rel => exact ⟨k + 1, by omega, by go_num, HO.out, hB4⟩
    case measure => simp [intOf]; omega
  have hke : k = 5 := by omega
  subst hke
  have hkf : decide ((((5 : Nat) : Int)) < 5) = false := decide_eq_false (by omega)
  have HST : Hid (Stp wr u10 (levs l)) := stp_own own
  obtain ⟨la, lc, rfl⟩ : ∃ la lc, u10 = .slice la 5 lc := by
    obtain ⟨la, lc, e⟩ := HST.out.form
    exact ⟨la, lc, e⟩
  have HS3 : Hid (Sts wr (.slice ra n rc) (ringsL l)) := HS2.out.every hB
  have q4 := HR.out wr bW
  have hEn := bW
  clear own hB HR HS2 HLv B2
  have e1 : apE l a b = 1 := by rw [HAE.out, if_pos hout]
  have e2 : apB l a b = false := by unfold apB; rw [e1]; rfl
  rw [e1, e2, show wErr 1 = .iface 53 (.int .i64 1) from rfl] at HA
  have hcase : decide (a < 0) = true ∨ (decide (a < 0) = false ∧ (decide (4 < a) = true ∨ (decide (4 < a) = false ∧ (decide (b < 0) = true ∨ (decide (b < 0) = false ∧ decide (4 < b) = true))))) := by
    simp only [decide_eq_true_eq, decide_eq_false_iff_not]
    omega
  clear e1 e2 hout HAE HW
  rcases hcase with d1 | ⟨d1, d2 | ⟨d2, d3 | ⟨d3, d4⟩⟩⟩
  · go_wp2_with (first
      | (go_at_call 8; refine q4.mono ?_; rintro e w4 ⟨ua, uc, rfl, HS4, b4⟩; clear q4; have B4 := bW.trans (b4.mono bW.size); have HS5 := HS3.out.every b4; have q5 := HX.out w4 B4)
      | (go_at_call 9; refine q5.mono ?_; rintro e w5 ⟨rfl, b5⟩; clear q5; have B5 := B4.trans (b5.mono B4.size); have q6 := HLs.out w5 _ _ _ _ (HS4.out.every b5) (HS5.every b5); clear HLs)
      | (go_at_call 10; refine q6.mono ?_; rintro e w6 ⟨rfl, b6⟩; clear q6; have B6 := B5.trans (b6.mono B5.size); have q7 := HL.out w6 B6; clear HL)
      | (go_at_call 11; refine q7.mono ?_; rintro e w7 ⟨ya, yc, rfl, HS7, b7⟩; clear q7; have B7 := B6.trans (b7.mono B6.size); have q8 := HX.out w7 B7)
      | (go_at_call 9; refine q8.mono ?_; rintro e w8 ⟨rfl, b8⟩; clear q8; have B8 := B7.trans (b8.mono B7.size); have q9 := HI.out w8 _ _ _ _ (HS7.out.every b8) ((((((HST.out.every b4).every b5).every b6).every b7).every b8)); clear HI)
      | (go_at_call 12; refine q9.mono ?_; rintro e w9 ⟨rfl, b9⟩; clear q9; have B9 := B8.trans (b9.mono B8.size); have q10 := HA.out w9 B9; clear HA)
      | (go_at_call 14; refine q10.mono ?_; rintro e wA ⟨rfl, bA⟩; clear q10; have BA := B9.trans (bA.mono B9.size); have q11 := HX1.out wA BA; clear HX1)
      | (go_at_call 9; refine q11.mono ?_; rintro e wB ⟨rfl, bB⟩; clear q11; have BB := BA.trans (bB.mono BA.size)))
    go_ret
    exact ⟨by simp, BB⟩
  · go_wp2_with (first
      | (go_at_call 8; refine q4.mono ?_; rintro e w4 ⟨ua, uc, rfl, HS4, b4⟩; clear q4; have B4 := bW.trans (b4.mono bW.size); have HS5 := HS3.out.every b4; have q5 := HX.out w4 B4)
      | (go_at_call 9; refine q5.mono ?_; rintro e w5 ⟨rfl, b5⟩; clear q5; have B5 := B4.trans (b5.mono B4.size); have q6 := HLs.out w5 _ _ _ _ (HS4.out.every b5) (HS5.every b5); clear HLs)
      | (go_at_call 10; refine q6.mono ?_; rintro e w6 ⟨rfl, b6⟩; clear q6; have B6 := B5.trans (b6.mono B5.size); have q7 := HL.out w6 B6; clear HL)
      | (go_at_call 11; refine q7.mono ?_; rintro e w7 ⟨ya, yc, rfl, HS7, b7⟩; clear q7; have B7 := B6.trans (b7.mono B6.size); have q8 := HX.out w7 B7)
      | (go_at_call 9; refine q8.mono ?_; rintro e w8 ⟨rfl, b8⟩; clear q8; have B8 := B7.trans (b8.mono B7.size); have q9 := HI.out w8 _ _ _ _ (HS7.out.every b8) ((((((HST.out.every b4).every b5).every b6).every b7).every b8)); clear HI)
      | (go_at_call 12; refine q9.mono ?_; rintro e w9 ⟨rfl, b9⟩; clear q9; have B9 := B8.trans (b9.mono B8.size); have q10 := HA.out w9 B9; clear HA)
      | (go_at_call 14; refine q10.mono ?_; rintro e wA ⟨rfl, bA⟩; clear q10; have BA := B9.trans (bA.mono B9.size); have q11 := HX1.out wA BA; clear HX1)
      | (go_at_call 9; refine q11.mono ?_; rintro e wB ⟨rfl, bB⟩; clear q11; have BB := BA.trans (bB.mono BA.size)))
    go_ret
    exact ⟨by simp, BB⟩
  · go_wp2_with (first
      | (go_at_call 8; refine q4.mono ?_; rintro e w4 ⟨ua, uc, rfl, HS4, b4⟩; clear q4; have B4 := bW.trans (b4.mono bW.size); have HS5 := HS3.out.every b4; have q5 := HX.out w4 B4)
      | (go_at_call 9; refine q5.mono ?_; rintro e w5 ⟨rfl, b5⟩; clear q5; have B5 := B4.trans (b5.mono B4.size); have q6 := HLs.out w5 _ _ _ _ (HS4.out.every b5) (HS5.every b5); clear HLs)
      | (go_at_call 10; refine q6.mono ?_; rintro e w6 ⟨rfl, b6⟩; clear q6; have B6 := B5.trans (b6.mono B5.size); have q7 := HL.out w6 B6; clear HL)
      | (go_at_call 11; refine q7.mono ?_; rintro e w7 ⟨ya, yc, rfl, HS7, b7⟩; clear q7; have B7 := B6.trans (b7.mono B6.size); have q8 := HX.out w7 B7)
      | (go_at_call 9; refine q8.mono ?_; rintro e w8 ⟨rfl, b8⟩; clear q8; have B8 := B7.trans (b8.mono B7.size); have q9 := HI.out w8 _ _ _ _ (HS7.out.every b8) ((((((HST.out.every b4).every b5).every b6).every b7).every b8)); clear HI)
      | (go_at_call 12; refine q9.mono ?_; rintro e w9 ⟨rfl, b9⟩; clear q9; have B9 := B8.trans (b9.mono B8.size); have q10 := HA.out w9 B9; clear HA)
      | (go_at_call 14; refine q10.mono ?_; rintro e wA ⟨rfl, bA⟩; clear q10; have BA := B9.trans (bA.mono B9.size); have q11 := HX1.out wA BA; clear HX1)
      | (go_at_call 9; refine q11.mono ?_; rintro e wB ⟨rfl, bB⟩; clear q11; have BB := BA.trans (bB.mono BA.size)))
    go_ret
    exact ⟨by simp, BB⟩
  · go_wp2_with (first
      | (go_at_call 8; refine q4.mono ?_; rintro e w4 ⟨ua, uc, rfl, HS4, b4⟩; clear q4; have B4 := bW.trans (b4.mono bW.size); have HS5 := HS3.out.every b4; have q5 := HX.out w4 B4)
      | (go_at_call 9; refine q5.mono ?_; rintro e w5 ⟨rfl, b5⟩; clear q5; have B5 := B4.trans (b5.mono B4.size); have q6 := HLs.out w5 _ _ _ _ (HS4.out.every b5) (HS5.every b5); clear HLs)
      | (go_at_call 10; refine q6.mono ?_; rintro e w6 ⟨rfl, b6⟩; clear q6; have B6 := B5.trans (b6.mono B5.size); have q7 := HL.out w6 B6; clear HL)
      | (go_at_call 11; refine q7.mono ?_; rintro e w7 ⟨ya, yc, rfl, HS7, b7⟩; clear q7; have B7 := B6.trans (b7.mono B6.size); have q8 := HX.out w7 B7)
      | (go_at_call 9; refine q8.mono ?_; rintro e w8 ⟨rfl, b8⟩; clear q8; have B8 := B7.trans (b8.mono B7.size); have q9 := HI.out w8 _ _ _ _ (HS7.out.every b8) ((((((HST.out.every b4).every b5).every b6).every b7).every b8)); clear HI)
      | (go_at_call 12; refine q9.mono ?_; rintro e w9 ⟨rfl, b9⟩; clear q9; have B9 := B8.trans (b9.mono B8.size); have q10 := HA.out w9 B9; clear HA)
      | (go_at_call 14; refine q10.mono ?_; rintro e wA ⟨rfl, bA⟩; clear q10; have BA := B9.trans (bA.mono B9.size); have q11 := HX1.out wA BA; clear HX1)
      | (go_at_call 9; refine q11.mono ?_; rintro e wB ⟨rfl, bB⟩; clear q11; have BB := BA.trans (bB.mono BA.size)))
    go_ret
    exact ⟨by simp, BB⟩
set_option maxRecDepth 100000 in
set_option maxHeartbeats 16000000 in
theorem ltell_in {G : World → Prop} (hall : ∀ w w', G w → Below w.heap.size w w' → G w') (hL : LevLeast G) (hR : LevRings G) (hA : LevApart G) (hE : ∀ (e : Int) (W : World), G W → Calls Tryd.prog 9 #[wErr e, .int .i64 e] W fun r w' => r = .returned (.bool true) ∧ Below W.heap.size W w')
    (l : List W4) (v : Value) (a b : Int) (w : World) (hG : G w) (hl : Wrs w v l) (h : (wschk l).2 = 0) (hin : ¬ (a < 0 ∨ 4 < a ∨ b < 0 ∨ 4 < b)) : Calls Tryd.prog 3 #[v, .int .i64 a, .int .i64 b] w fun e w' => e = .returned (.bool true) ∧ Below w.heap.size w w' := by
  have hw := refwires_any l v w hl
  obtain ⟨a, rfl⟩ : ∃ n : Nat, a = n := ⟨a.toNat, by omega⟩
  obtain ⟨b, rfl⟩ : ∃ n : Nat, b = n := ⟨b.toNat, by omega⟩
  have hok := wschk_ok h
  have HRR : Hid (∀ W, Below w.heap.size w W → Calls Tryd.prog 6 #[v] W fun e w' => ∃ ra rc, e = .returned (.slice ra (ringsL l).length rc) ∧ Hid (Sts w' (.slice ra (ringsL l).length rc) (ringsL l)) ∧ Below W.heap.size W w') := fun W hb => by
    refine (rrings_any l v W (hl.all hb) hok.1 hok.2).mono ?_
    rintro e w' ⟨uu, rfl, hu, hb⟩
    obtain ⟨ra, rc, rfl⟩ := hu.form
    exact ⟨ra, rc, rfl, hu, hb⟩
  have HLv : Hid (∀ W (r : Nat), r < 5 → Below w.heap.size w W → Calls Tryd.prog 7 #[v, .int .i64 r] W fun e w' => e = .returned (.int .i64 (lev l r : Int)) ∧ Below W.heap.size W w') := fun W r hr hb => rlevel_any l v hok.1 hok.2 r W hr (hl.all hb)
  have HR : Hid (∀ W, Below w.heap.size w W → Calls Tryd.prog 8 #[v] W fun e w' => ∃ ua uc, e = .returned (.tuple #[.slice ua (ringsL l).length uc, .nilIface]) ∧ Hid (Sts w' (.slice ua (ringsL l).length uc) (ringsL l)) ∧ Below W.heap.size W w') := fun W hb => by
    refine (hR l _ W (hall _ _ hG hb) (hl.all hb)).mono ?_
    rintro e w' ⟨uu, rfl, hu, hb⟩
    unfold ringsE at hu
    rw [if_pos h] at hu
    obtain ⟨ua, uc, rfl⟩ := hu.form
    exact ⟨ua, uc, by rw [h]; rfl, hu, hb⟩
  have HL : Hid (∀ W, Below w.heap.size w W → Calls Tryd.prog 11 #[v] W fun e w' => ∃ ua uc, e = .returned (.tuple #[.slice ua 5 uc, .nilIface]) ∧ Hid (Stp w' (.slice ua 5 uc) (levs l)) ∧ Below W.heap.size W w') := fun W hb => by
    refine (hL l _ W (hall _ _ hG hb) (hl.all hb)).mono ?_
    rintro e w' ⟨uu, rfl, hu, hb⟩
    unfold levsE at hu
    rw [if_pos h] at hu
    obtain ⟨ua, uc, rfl⟩ := hu.form
    exact ⟨ua, uc, by rw [h]; rfl, hu, hb⟩
  have HX : Hid (∀ W, Below w.heap.size w W → Calls Tryd.prog 9 #[.nilIface, .int .i64 0] W fun r w' => r = .returned (.bool true) ∧ Below W.heap.size W w') := fun W hb => hE 0 W (hall _ _ hG hb)
  have HX1 : Hid (∀ W, Below w.heap.size w W → Calls Tryd.prog 9 #[.iface 53 (.int .i64 1), .int .i64 1] W fun r w' => r = .returned (.bool true) ∧ Below W.heap.size W w') := fun W hb => hE 1 W (hall _ _ hG hb)
  have HA : Hid (∀ W, Below w.heap.size w W → Calls Tryd.prog 14 #[v, .int .i64 a, .int .i64 b] W fun e w' => e = .returned (.tuple #[.bool (apB l a b), wErr (apE l a b)]) ∧ Below W.heap.size W w') := fun W hb => hA l v a b W (hall _ _ hG hb) (hl.all hb)
  have HLs : Hid (∀ W ua uc ra rc, Sts W (.slice ua (ringsL l).length uc) (ringsL l) → Sts W (.slice ra (ringsL l).length rc) (ringsL l) → Calls Tryd.prog 10 #[.slice ua (ringsL l).length uc, .slice ra (ringsL l).length rc] W fun e w' => e = .returned (.bool true) ∧ Below W.heap.size W w') := fun W ua uc ra rc h1 h2 => lists_any _ _ _ W h1 h2 (ringsL_small l).1 (ringsL_small l).2
  have HI : Hid (∀ W ua uc ra rc, Stp W (.slice ua 5 uc) (levs l) → Stp W (.slice ra 5 rc) (levs l) → Calls Tryd.prog 12 #[.slice ua 5 uc, .slice ra 5 rc] W fun e w' => e = .returned (.bool true) ∧ Below W.heap.size W w') := fun W ua uc ra rc h1 h2 => stp_ints h1 h2 (by show 5 ≤ _; omega)
  have HW : Hid (∀ W, Below w.heap.size w W → Calls Tryd.prog 13 #[v] W fun e w' => e = .returned (.agg (wayCells l).toArray) ∧ Below W.heap.size W w') := fun W hb => ways_any l v W (hl.all hb) hok.1 hok.2
  have HAE : Hid (apE l a b = if (a : Int) < 0 ∨ (4 : Int) < a ∨ (b : Int) < 0 ∨ (4 : Int) < b then 1 else 0) := by show apE l a b = _; unfold apE; rw [if_pos h]
  obtain ⟨ii, hi, hz0, hz1, hz2⟩ := info_parts infoInt
  rw [h] at hw
  generalize (wschk l).1 = p at hw
  obtain ⟨va, vc, rfl⟩ := hl.form
  obtain ⟨n, hn⟩ : ∃ n, (ringsL l).length = n := ⟨_, rfl⟩
  rw [hn] at HRR HR HLs
  clear hl hL hR hA hE h hok hn
  go_enter Tryd.func3, Tryd.ntmps3
  go_upto_region 7 with (first
    | (go_at_call 5; refine hw.mono ?_; rintro e w1 ⟨rfl, B1⟩; clear hw; have q2 := HRR.out w1 B1; clear HRR)
    | (go_at_call 6; refine q2.mono ?_; rintro e w2 ⟨ra, rc, rfl, HS2, b2⟩; clear q2; have B2 := B1.trans (b2.mono B1.size); clear b2))
  go_loopw [10, 11] (fun s10 s11 wr => ∃ k : Nat, k ≤ 5 ∧ s11 = .int .i64 k ∧ wr.ownsRow w2.heap.size 3 1 s10 k (ints ((levs l).take k)) ∧ Below w2.heap.size w2 wr) (fun _ s11 _ => 5 - (intOf s11).toNat)
  case atStart => exact ⟨0, Nat.zero_le _, rfl, World.ownsRow_nil _ _ _ _, Below.refl _ _⟩
  case round =>
  obtain ⟨k, hk, rfl, own, hB⟩ := hrel
  have bW := B2.trans (hB.mono B2.size)
  by_cases hk5 : k < 5
  · have hki : (k : Int) < 5 := by omega
    have q3 := HLv.out wr k hk5 bW
    have HY : Hid ((levs l).take (k + 1) = (levs l).take k ++ [(lev l k : Int)]) := lvs_take l k hk5
    generalize (lev l k : Int) = lk at q3 HY
    go_wp2_with (first
      | (go_at_call 7; refine q3.mono ?_; rintro e w3 ⟨rfl, b3⟩; clear q3; have own3 := own_below own b3 (Nat.le_refl _); have hB3 := hB.trans (b3.mono hB.size); have hsz := hB3.size)
      | (at_builtin; refine wpList_append_own _ rfl _ _ 26 rfl w2.heap.size 3 ii (.int .i64 0) 1 8 Tryd.underlying26 hi hz0 hz1 hz2 rfl (by decide) _ _ _ rfl (own3.alloc _) ⟨w3.heap.size, 0, none⟩ 1 1 [.int .i64 lk] rfl rfl ?c1A ?c2A ?c3A ?c4A ?c5A ?_))
    case c1A => exact one_new_at rfl _ _
    case c2A => exact one_one lk
    case c3A => unfold maxLen; omega
    case c4A => omega
    case c5A => simp; omega
    intro v1 w4 own4 hg4 _
    have hB4 : Below w2.heap.size w2 w4 := (hB3.alloc hB3.size _).grown hg4 (by simp; omega) (fun j hj => (own3.lt j hj).1)
    have HO : Hid (w4.ownsRow w2.heap.size 3 1 v1 (k + 1) (ints ((levs l).take (k + 1)))) := by
      show World.ownsRow _ _ _ _ _ _ _
      rw [HY.out, ints_snoc]
      exact own4
    clear own own3 own4 hg4
    go_wp2
    go_roundw
    case rel => exact ⟨k + 1, by omega, by go_num, HO.out, hB4⟩
    case measure => simp [intOf]; omega
  have hke : k = 5 := by omega
  subst hke
  have hkf : decide ((((5 : Nat) : Int)) < 5) = false := decide_eq_false (by omega)
  have HST : Hid (Stp wr u10 (levs l)) := stp_own own
  obtain ⟨la, lc, rfl⟩ : ∃ la lc, u10 = .slice la 5 lc := by
    obtain ⟨la, lc, e⟩ := HST.out.form
    exact ⟨la, lc, e⟩
  have HS3 : Hid (Sts wr (.slice ra n rc) (ringsL l)) := HS2.out.every hB
  have q4 := HR.out wr bW
  have hEn := bW
  clear own hB HR HS2 HLv B2
  have e1 : apE l a b = 0 := by rw [HAE.out, if_neg hin]
  have e2 : apB l a b = (!way l a b && !way l b a) := by unfold apB; rw [if_pos e1]; rfl
  rw [e1, e2, show wErr 0 = .nilIface from rfl] at HA
  have ha5 : a < 5 := by omega
  have hb5 : b < 5 := by omega
  have d1 : decide ((a : Int) < 0) = false := decide_eq_false (by omega)
  have d2 : decide ((4 : Int) < (a : Int)) = false := decide_eq_false (by omega)
  have d3 : decide ((b : Int) < 0) = false := decide_eq_false (by omega)
  have d4 : decide ((4 : Int) < (b : Int)) = false := decide_eq_false (by omega)
  have hai : (a : Int) < 5 := by omega
  have hbi : (b : Int) < 5 := by omega
  clear e1 e2 hin HAE HX1
  cases w1' : way l a b with
  | true =>
    cases w2' : way l b a with
    | true =>
      rw [w1', w2'] at HA
      go_wp2_with (first
        | (go_at_call 8; refine q4.mono ?_; rintro e w4 ⟨ua, uc, rfl, HS4, b4⟩; clear q4; have B4 := bW.trans (b4.mono bW.size); have HS5 := HS3.out.every b4; have q5 := HX.out w4 B4)
        | (go_at_call 9; refine q5.mono ?_; rintro e w5 ⟨rfl, b5⟩; clear q5; have B5 := B4.trans (b5.mono B4.size); have q6 := HLs.out w5 _ _ _ _ (HS4.out.every b5) (HS5.every b5); clear HLs)
        | (go_at_call 10; refine q6.mono ?_; rintro e w6 ⟨rfl, b6⟩; clear q6; have B6 := B5.trans (b6.mono B5.size); have q7 := HL.out w6 B6; clear HL)
        | (go_at_call 11; refine q7.mono ?_; rintro e w7 ⟨ya, yc, rfl, HS7, b7⟩; clear q7; have B7 := B6.trans (b7.mono B6.size); have q8 := HX.out w7 B7)
        | (go_at_call 9; refine q8.mono ?_; rintro e w8 ⟨rfl, b8⟩; clear q8; have B8 := B7.trans (b8.mono B7.size); have q9 := HI.out w8 _ _ _ _ (HS7.out.every b8) ((((((HST.out.every b4).every b5).every b6).every b7).every b8)); clear HI)
        | (go_at_call 12; refine q9.mono ?_; rintro e w9 ⟨rfl, b9⟩; clear q9; have B9 := B8.trans (b9.mono B8.size); have q10 := HW.out w9 B9; clear HW)
        | (go_at_call 13; refine q10.mono ?_; rintro e wA ⟨rfl, bA⟩; clear q10; have BA := B9.trans (bA.mono B9.size))
        | (refine wpList_store_mid rfl 39 _ _ rfl wA.heap.size 0 (wayCells l).toArray rfl rfl (there_new wA 39) (by kernel_rfl) (way_one l) ?_; rw [show (wayCells l).toArray.toList = wayCells l from rfl]; have z1 := ways_cell wA l 39 ha5 hb5; have z2 := ways_cell wA l 39 hb5 ha5; rw [w1'] at z1; rw [w2'] at z2; have Bz := below_cells (BA.alloc BA.size (.cells z25 39)) BA.size (wayCells l) 0; unfold z25 at z1 z2 Bz; generalize World.setCells _ wA.heap.size 0 (wayCells l) = wz at z1 z2 Bz ⊢; have q11 := HA.out wz Bz; clear HA)
        | (go_at_call 14; refine q11.mono ?_; rintro e wB ⟨rfl, bB⟩; clear q11; have BB := Bz.trans (bB.mono Bz.size); have q12 := HX.out wB BB; clear HX)
        | (go_at_call 9; refine q12.mono ?_; rintro e wC ⟨rfl, bC⟩; clear q12; have BC := BB.trans (bC.mono BB.size)))
      go_ret
      exact ⟨by simp, BC⟩
    | false =>
      rw [w1', w2'] at HA
      go_wp2_with (first
        | (go_at_call 8; refine q4.mono ?_; rintro e w4 ⟨ua, uc, rfl, HS4, b4⟩; clear q4; have B4 := bW.trans (b4.mono bW.size); have HS5 := HS3.out.every b4; have q5 := HX.out w4 B4)
        | (go_at_call 9; refine q5.mono ?_; rintro e w5 ⟨rfl, b5⟩; clear q5; have B5 := B4.trans (b5.mono B4.size); have q6 := HLs.out w5 _ _ _ _ (HS4.out.every b5) (HS5.every b5); clear HLs)
        | (go_at_call 10; refine q6.mono ?_; rintro e w6 ⟨rfl, b6⟩; clear q6; have B6 := B5.trans (b6.mono B5.size); have q7 := HL.out w6 B6; clear HL)
        | (go_at_call 11; refine q7.mono ?_; rintro e w7 ⟨ya, yc, rfl, HS7, b7⟩; clear q7; have B7 := B6.trans (b7.mono B6.size); have q8 := HX.out w7 B7)
        | (go_at_call 9; refine q8.mono ?_; rintro e w8 ⟨rfl, b8⟩; clear q8; have B8 := B7.trans (b8.mono B7.size); have q9 := HI.out w8 _ _ _ _ (HS7.out.every b8) ((((((HST.out.every b4).every b5).every b6).every b7).every b8)); clear HI)
        | (go_at_call 12; refine q9.mono ?_; rintro e w9 ⟨rfl, b9⟩; clear q9; have B9 := B8.trans (b9.mono B8.size); have q10 := HW.out w9 B9; clear HW)
        | (go_at_call 13; refine q10.mono ?_; rintro e wA ⟨rfl, bA⟩; clear q10; have BA := B9.trans (bA.mono B9.size))
        | (refine wpList_store_mid rfl 39 _ _ rfl wA.heap.size 0 (wayCells l).toArray rfl rfl (there_new wA 39) (by kernel_rfl) (way_one l) ?_; rw [show (wayCells l).toArray.toList = wayCells l from rfl]; have z1 := ways_cell wA l 39 ha5 hb5; have z2 := ways_cell wA l 39 hb5 ha5; rw [w1'] at z1; rw [w2'] at z2; have Bz := below_cells (BA.alloc BA.size (.cells z25 39)) BA.size (wayCells l) 0; unfold z25 at z1 z2 Bz; generalize World.setCells _ wA.heap.size 0 (wayCells l) = wz at z1 z2 Bz ⊢; have q11 := HA.out wz Bz; clear HA)
        | (go_at_call 14; refine q11.mono ?_; rintro e wB ⟨rfl, bB⟩; clear q11; have BB := Bz.trans (bB.mono Bz.size); have q12 := HX.out wB BB; clear HX)
        | (go_at_call 9; refine q12.mono ?_; rintro e wC ⟨rfl, bC⟩; clear q12; have BC := BB.trans (bC.mono BB.size)))
      go_ret
      exact ⟨by simp, BC⟩
  | false =>
    cases w2' : way l b a with
    | true =>
      rw [w1', w2'] at HA
      go_wp2_with (first
        | (go_at_call 8; refine q4.mono ?_; rintro e w4 ⟨ua, uc, rfl, HS4, b4⟩; clear q4; have B4 := bW.trans (b4.mono bW.size); have HS5 := HS3.out.every b4; have q5 := HX.out w4 B4)
        | (go_at_call 9; refine q5.mono ?_; rintro e w5 ⟨rfl, b5⟩; clear q5; have B5 := B4.trans (b5.mono B4.size); have q6 := HLs.out w5 _ _ _ _ (HS4.out.every b5) (HS5.every b5); clear HLs)
        | (go_at_call 10; refine q6.mono ?_; rintro e w6 ⟨rfl, b6⟩; clear q6; have B6 := B5.trans (b6.mono B5.size); have q7 := HL.out w6 B6; clear HL)
        | (go_at_call 11; refine q7.mono ?_; rintro e w7 ⟨ya, yc, rfl, HS7, b7⟩; clear q7; have B7 := B6.trans (b7.mono B6.size); have q8 := HX.out w7 B7)
        | (go_at_call 9; refine q8.mono ?_; rintro e w8 ⟨rfl, b8⟩; clear q8; have B8 := B7.trans (b8.mono B7.size); have q9 := HI.out w8 _ _ _ _ (HS7.out.every b8) ((((((HST.out.every b4).every b5).every b6).every b7).every b8)); clear HI)
        | (go_at_call 12; refine q9.mono ?_; rintro e w9 ⟨rfl, b9⟩; clear q9; have B9 := B8.trans (b9.mono B8.size); have q10 := HW.out w9 B9; clear HW)
        | (go_at_call 13; refine q10.mono ?_; rintro e wA ⟨rfl, bA⟩; clear q10; have BA := B9.trans (bA.mono B9.size))
        | (refine wpList_store_mid rfl 39 _ _ rfl wA.heap.size 0 (wayCells l).toArray rfl rfl (there_new wA 39) (by kernel_rfl) (way_one l) ?_; rw [show (wayCells l).toArray.toList = wayCells l from rfl]; have z1 := ways_cell wA l 39 ha5 hb5; have z2 := ways_cell wA l 39 hb5 ha5; rw [w1'] at z1; rw [w2'] at z2; have Bz := below_cells (BA.alloc BA.size (.cells z25 39)) BA.size (wayCells l) 0; unfold z25 at z1 z2 Bz; generalize World.setCells _ wA.heap.size 0 (wayCells l) = wz at z1 z2 Bz ⊢; have q11 := HA.out wz Bz; clear HA)
        | (go_at_call 14; refine q11.mono ?_; rintro e wB ⟨rfl, bB⟩; clear q11; have BB := Bz.trans (bB.mono Bz.size); have q12 := HX.out wB BB; clear HX)
        | (go_at_call 9; refine q12.mono ?_; rintro e wC ⟨rfl, bC⟩; clear q12; have BC := BB.trans (bC.mono BB.size)))
      go_ret
      exact ⟨by simp, BC⟩
    | false =>
      rw [w1', w2'] at HA
      go_wp2_with (first
        | (go_at_call 8; refine q4.mono ?_; rintro e w4 ⟨ua, uc, rfl, HS4, b4⟩; clear q4; have B4 := bW.trans (b4.mono bW.size); have HS5 := HS3.out.every b4; have q5 := HX.out w4 B4)
        | (go_at_call 9; refine q5.mono ?_; rintro e w5 ⟨rfl, b5⟩; clear q5; have B5 := B4.trans (b5.mono B4.size); have q6 := HLs.out w5 _ _ _ _ (HS4.out.every b5) (HS5.every b5); clear HLs)
        | (go_at_call 10; refine q6.mono ?_; rintro e w6 ⟨rfl, b6⟩; clear q6; have B6 := B5.trans (b6.mono B5.size); have q7 := HL.out w6 B6; clear HL)
        | (go_at_call 11; refine q7.mono ?_; rintro e w7 ⟨ya, yc, rfl, HS7, b7⟩; clear q7; have B7 := B6.trans (b7.mono B6.size); have q8 := HX.out w7 B7)
        | (go_at_call 9; refine q8.mono ?_; rintro e w8 ⟨rfl, b8⟩; clear q8; have B8 := B7.trans (b8.mono B7.size); have q9 := HI.out w8 _ _ _ _ (HS7.out.every b8) ((((((HST.out.every b4).every b5).every b6).every b7).every b8)); clear HI)
        | (go_at_call 12; refine q9.mono ?_; rintro e w9 ⟨rfl, b9⟩; clear q9; have B9 := B8.trans (b9.mono B8.size); have q10 := HW.out w9 B9; clear HW)
        | (go_at_call 13; refine q10.mono ?_; rintro e wA ⟨rfl, bA⟩; clear q10; have BA := B9.trans (bA.mono B9.size))
        | (refine wpList_store_mid rfl 39 _ _ rfl wA.heap.size 0 (wayCells l).toArray rfl rfl (there_new wA 39) (by kernel_rfl) (way_one l) ?_; rw [show (wayCells l).toArray.toList = wayCells l from rfl]; have z1 := ways_cell wA l 39 ha5 hb5; have z2 := ways_cell wA l 39 hb5 ha5; rw [w1'] at z1; rw [w2'] at z2; have Bz := below_cells (BA.alloc BA.size (.cells z25 39)) BA.size (wayCells l) 0; unfold z25 at z1 z2 Bz; generalize World.setCells _ wA.heap.size 0 (wayCells l) = wz at z1 z2 Bz ⊢; have q11 := HA.out wz Bz; clear HA)
        | (go_at_call 14; refine q11.mono ?_; rintro e wB ⟨rfl, bB⟩; clear q11; have BB := Bz.trans (bB.mono Bz.size); have q12 := HX.out wB BB; clear HX)
        | (go_at_call 9; refine q12.mono ?_; rintro e wC ⟨rfl, bC⟩; clear q12; have BC := BB.trans (bC.mono BB.size)))
      go_ret
      exact ⟨by simp, BC⟩
theorem ltell_of {G : World → Prop} (hall : ∀ w w', G w → Below w.heap.size w w' → G w') (hL : LevLeast G) (hR : LevRings G) (hA : LevApart G) (hE : ∀ (e : Int) (W : World), G W → Calls Tryd.prog 9 #[wErr e, .int .i64 e] W fun r w' => r = .returned (.bool true) ∧ Below W.heap.size W w')
    (l : List W4) (v : Value) (a b : Int) (w : World) (hG : G w) (hl : Wrs w v l) : Calls Tryd.prog 3 #[v, .int .i64 a, .int .i64 b] w fun e w' => e = .returned (.bool true) ∧ Below w.heap.size w w' := by
  by_cases h : (wschk l).2 = 0
  · by_cases ho : a < 0 ∨ 4 < a ∨ b < 0 ∨ 4 < b
    · exact ltell_out hall hL hR hA hE l v a b w hG hl h ho
    · exact ltell_in hall hL hR hA hE l v a b w hG hl h ho
  · exact ltell_bad hall hL hR hA hE l v a b w hG hl h
end Go.Proofs.YtbnliibgnnegeagDoor

/-
  The law LevelsUp, of what package levels promises.
-/
import Derived.Test.YtbnliibgnnegeagLUp0
import Derived.Test.YtbnliibgnnegeagLevCL
import Derived.Test.YtbnliibgnnegeagLevCR
import Derived.Test.YtbnliibgnnegeagFlLevels
import Derived.Deep.CutRange
import Derived.BigQuiet
import Derived.RangeFuncNested
namespace Go.Proofs.Ytbnliibgnnegeag
open Go.RowKit

theorem lup_down {l : List W4} (h : (wschk l).2 = 0) : lvE l (levs l) = 0 := by
  have hok := (wschk_ok h).2
  refine lvE_ok h rfl (fun j y _ hy => ?_)
  have hm := List.mem_of_getElem? hy
  obtain ⟨h1, h2, h3, h4, _⟩ := w4_rooms (hok y hm)
  unfold dwn lvl
  rw [List.getD_eq_getElem?_getD, List.getD_eq_getElem?_getD, lvs_at (by omega), lvs_at (by omega)]
  simp only [Option.getD_some, decide_eq_false_iff_not]
  cases hb : both l y.1.toNat y.2.1.toNat with
  | true => rw [lev_same hok (by omega) (by omega) hb]; omega
  | false => have := lev_up hok hm hb; omega
set_option maxRecDepth 100000 in
set_option maxHeartbeats 4000000 in
theorem lup_bad {G : World → Prop} (hall : ∀ w w', G w → Below w.heap.size w w' → G w') (hL : LevLeast G) (hR : LevRings G) (l : List W4) (v u : Value) (ot : List Int) (w : World) (hG : G w) (hl : Wrs w v l) (hu : Stp w u ot) (h : (wschk l).2 ≠ 0) :
    Calls Try.prog 3 #[v, u] w fun e w' => e = .returned (.bool true) ∧ Below w.heap.size w w' := by
  have hA : Below w.heap.size w (w.alloc (.cells #[.int .i64 2, .int .i64 0, .int .i64 1, .int .i64 1, .int .i64 0, .int .i64 4, .int .i64 1, .int .i64 1] 29)) := (Below.refl _ _).alloc (Nat.le_refl _) _
  have q1 : Calls Try.prog 4 #[.slice (some ⟨w.heap.size, 0, none⟩) 2 2] (w.alloc (.cells #[.int .i64 2, .int .i64 0, .int .i64 1, .int .i64 1, .int .i64 0, .int .i64 4, .int .i64 1, .int .i64 1] 29)) fun e w' => ∃ g o k, e = .returned (.tuple #[.slice (some ⟨g, o, none⟩) 5 k, .nilIface]) ∧ w'.cell? ⟨g, o, none⟩ = some (.int .i64 1) ∧ w'.cell? ⟨g, o + 4, none⟩ = some (.int .i64 2) ∧ w'.cell? ⟨g, o + 2, none⟩ = some (.int .i64 0) ∧ Below w.heap.size w w' := by
    refine (hL toyL _ _ (hall _ _ hG hA) (toyL_wrs w _ rfl)).mono ?_
    rintro e w' ⟨uu, rfl, hu, hb⟩
    rw [toyL_lev] at hu
    obtain ⟨g, o, k, rfl, _, c0, _, c2, _, c4⟩ := lvs_five hu
    rw [toyL_ok]
    exact ⟨g, o, k, rfl, c0, c4, c2, hA.trans (hb.mono hA.size)⟩
  obtain ⟨va, vc, rfl⟩ := hl.form
  obtain ⟨oa, oc, rfl⟩ := hu.form
  have HL : Hid (∀ W, Below w.heap.size w W → Calls Try.prog 4 #[.slice va l.length vc] W fun e w' => ∃ ua uc, e = .returned (.tuple #[.slice ua 0 uc, .iface 44 (.int .i64 (wschk l).2)]) ∧ Below W.heap.size W w') := fun W hb => by
    refine (hL l _ W (hall _ _ hG hb) (hl.all hb)).mono ?_
    rintro e w' ⟨uu, rfl, hu, hb⟩
    unfold levsE at hu
    rw [if_neg h] at hu
    obtain ⟨ua, uc, rfl⟩ := hu.form
    exact ⟨ua, uc, by rw [wErr_not h]; rfl, hb⟩
  have HR : Hid (∀ W, Below w.heap.size w W → Calls Try.prog 5 #[.slice va l.length vc] W fun e w' => ∃ ua uc, e = .returned (.tuple #[.slice ua 0 uc, .iface 44 (.int .i64 (wschk l).2)]) ∧ Below W.heap.size W w') := fun W hb => by
    refine (hR l _ W (hall _ _ hG hb) (hl.all hb)).mono ?_
    rintro e w' ⟨uu, rfl, hu, hb⟩
    unfold ringsE at hu
    rw [if_neg h] at hu
    obtain ⟨ua, uc, rfl⟩ := hu.form
    exact ⟨ua, uc, by rw [wErr_not h]; rfl, hb⟩
  generalize (wschk l).2 = ec at HL HR
  clear hL hR hl hu h
  go_enter Try.func3, Try.ntmps3
  go_wp2_with (first
    | (go_at_call 4; refine q1.mono ?_; rintro e w1 ⟨g, o, k, rfl, c0, c4, c2, b1⟩; clear q1; have q2 := HL.out w1 b1; clear HL)
    | (go_at_call 4; refine q2.mono ?_; rintro e w2 ⟨ua, uc, rfl, b2⟩; clear q2; have B2 := b1.trans (b2.mono b1.size); have q3 := HR.out w2 B2; clear HR)
    | (go_at_call 5; refine q3.mono ?_; rintro e w3 ⟨ua3, uc3, rfl, b3⟩; clear q3; have B3 := B2.trans (b3.mono B2.size)))
  go_ret
  exact ⟨rfl, B3⟩
set_option maxRecDepth 100000 in
set_option maxHeartbeats 16000000 in
theorem lup_ok {G : World → Prop} (hall : ∀ w w', G w → Below w.heap.size w w' → G w') (hL : LevLeast G) (hR : LevRings G) (l : List W4) (v u : Value) (ot : List Int) (w : World) (hG : G w) (hl : Wrs w v l) (hu : Stp w u ot) (h : (wschk l).2 = 0) :
    Calls Try.prog 3 #[v, u] w fun e w' => e = .returned (.bool true) ∧ Below w.heap.size w w' := by
  have hA : Below w.heap.size w (w.alloc (.cells #[.int .i64 2, .int .i64 0, .int .i64 1, .int .i64 1, .int .i64 0, .int .i64 4, .int .i64 1, .int .i64 1] 29)) := (Below.refl _ _).alloc (Nat.le_refl _) _
  have q1 : Calls Try.prog 4 #[.slice (some ⟨w.heap.size, 0, none⟩) 2 2] (w.alloc (.cells #[.int .i64 2, .int .i64 0, .int .i64 1, .int .i64 1, .int .i64 0, .int .i64 4, .int .i64 1, .int .i64 1] 29)) fun e w' => ∃ g o k, e = .returned (.tuple #[.slice (some ⟨g, o, none⟩) 5 k, .nilIface]) ∧ w'.cell? ⟨g, o, none⟩ = some (.int .i64 1) ∧ w'.cell? ⟨g, o + 4, none⟩ = some (.int .i64 2) ∧ w'.cell? ⟨g, o + 2, none⟩ = some (.int .i64 0) ∧ Below w.heap.size w w' := by
    refine (hL toyL _ _ (hall _ _ hG hA) (toyL_wrs w _ rfl)).mono ?_
    rintro e w' ⟨uu, rfl, hu, hb⟩
    rw [toyL_lev] at hu
    obtain ⟨g, o, k, rfl, _, c0, _, c2, _, c4⟩ := lvs_five hu
    rw [toyL_ok]
    exact ⟨g, o, k, rfl, c0, c4, c2, hA.trans (hb.mono hA.size)⟩
  obtain ⟨va, vc, rfl⟩ := hl.form
  obtain ⟨oa, oc, rfl⟩ := hu.form
  have hok := (wschk_ok h).2
  have HOK : Hid (∀ x ∈ l, w4chk x = 0) := hok
  have hll := (wschk_ok h).1
  have HL : Hid (∀ W, Below w.heap.size w W → Calls Try.prog 4 #[.slice va l.length vc] W fun e w' => ∃ xg xo xk, e = .returned (.tuple #[.slice (some ⟨xg, xo, none⟩) 5 xk, .nilIface]) ∧ xg < w'.heap.size ∧ Hid (Stp w' (.slice (some ⟨xg, xo, none⟩) 5 xk) (levs l)) ∧ Hid (∀ r : Nat, r < 5 → w'.cell? ⟨xg, xo + r, none⟩ = some (.int .i64 (lev l r : Int))) ∧ Below W.heap.size W w') := fun W hb => by
    refine (hL l _ W (hall _ _ hG hb) (hl.all hb)).mono ?_
    rintro e w' ⟨uu, rfl, hu, hb⟩
    unfold levsE at hu
    rw [if_pos h] at hu
    have hu2 := hu
    rcases hu with ⟨h0, _⟩ | ⟨g, o, k, rfl, hlt, hc⟩
    · cases h0
    · exact ⟨g, o, k, by rw [h]; rfl, hlt, hu2, fun r hr => hc r _ (lvs_at hr), hb⟩
  have HR : Hid (∀ W, Below w.heap.size w W → Calls Try.prog 5 #[.slice va l.length vc] W fun e w' => ∃ ga gc, e = .returned (.tuple #[.slice ga (ringsL l).length gc, .nilIface]) ∧ Hid (Sts w' (.slice ga (ringsL l).length gc) (ringsL l)) ∧ Below W.heap.size W w') := fun W hb => by
    refine (hR l _ W (hall _ _ hG hb) (hl.all hb)).mono ?_
    rintro e w' ⟨uu, rfl, hu, hb⟩
    unfold ringsE at hu
    rw [if_pos h] at hu
    obtain ⟨ua, uc, rfl⟩ := hu.form
    exact ⟨ua, uc, by rw [h]; rfl, hu, hb⟩
  have HV : Hid (∀ W xg xo xk, Below w.heap.size w W → Stp W (.slice (some ⟨xg, xo, none⟩) 5 xk) (levs l) → Calls Try.prog 6 #[.slice va l.length vc, .slice (some ⟨xg, xo, none⟩) 5 xk] W fun e w' => e = .returned .nilIface ∧ Below W.heap.size W w') := fun W xg xo xk hb hs => by
    have := levels_any l (levs l) _ _ W (hl.all hb) hs
    rw [lup_down h] at this
    exact this
  have HW : Hid (Wrs w (.slice va l.length vc) l) := hl
  have HU : Hid (Stp w (.slice oa ot.length oc) ot) := hu
  have hrl : (ringsL l).length ≤ 5 := ringsTo_len l 5
  obtain ⟨n, hn⟩ : ∃ n, (ringsL l).length = n := ⟨_, rfl⟩
  have HN : Hid ((ringsL l).length = n) := hn
  rw [hn] at HR hrl
  clear hL hR hl hu h hn hok
  go_enter Try.func3, Try.ntmps3
  go_upto_region 10 with (first
    | (go_at_call 4; refine q1.mono ?_; rintro e w1 ⟨g, o, k, rfl, c0, c4, c2, b1⟩; clear q1; have q2 := HL.out w1 b1; clear HL)
    | (go_at_call 4; refine q2.mono ?_; rintro e w2 ⟨xg, xo, xk, rfl, hxg, HX, HXC, b2⟩; clear q2; have B2 := b1.trans (b2.mono b1.size); have q3 := HR.out w2 B2; clear HR)
    | (go_at_call 5; refine q3.mono ?_; rintro e w3 ⟨ga, gc, rfl, HS, b3⟩; clear q3; have B3 := B2.trans (b3.mono B2.size); have q4 := HV.out w3 xg xo xk B3 (HX.out.every b3); clear HV)
    | (go_at_call 6; refine q4.mono ?_; rintro e w4 ⟨rfl, b4⟩; clear q4; have B4 := B3.trans (b4.mono B3.size)))
  have b24 := b2.trans (b3.mono b2.size) |>.trans (b4.mono (Nat.le_trans b2.size b3.size))
  have B34 := b3.trans (b4.mono b3.size)
  have HB : Hid (Below w.heap.size w w4) := B4
  have HXC4 : Hid (∀ W, Below w4.heap.size w4 W → ∀ r : Nat, r < 5 → W.cell? ⟨xg, xo + r, none⟩ = some (.int .i64 (lev l r : Int))) := fun W hb r hr => ((B34.trans (hb.mono B34.size)).cell (p := ⟨xg, xo + r, none⟩) hxg).trans (HXC.out r hr)
  have HS4 : Hid (∀ i : Nat, i < n → ∃ gb go rb ro rc g, ga = some ⟨gb, go, none⟩ ∧ (ringsL l)[i]? = some g ∧ ∀ W, Below w4.heap.size w4 W → W.cell? ⟨gb, go + i, none⟩ = some (.slice (some ⟨rb, ro, none⟩) g.length rc) ∧ gb < w4.heap.size ∧ rb < w4.heap.size ∧ ∀ (j : Nat) z, g[j]? = some z → W.cell? ⟨rb, ro + j, none⟩ = some (.int .i64 z)) := fun i hi => by
    have hs := HS.out
    rw [← HN.out] at hs hi
    obtain ⟨gb, go, ua, uc, g, e1, hlt, hg, hc, hst⟩ := hs.at hi
    obtain ⟨b0, _, _, _, _, hg0, _⟩ := ring_at hg
    rcases hst with ⟨e0, _⟩ | ⟨rb, ro, rc, e2, hrl, hrc⟩
    · rw [e0] at hg0; cases hg0
    · injection e2 with e3 e4 e5
      subst e3
      refine ⟨gb, go, rb, ro, uc, g, e1, hg, fun W hb => ?_⟩
      have hb3 := b4.trans (hb.mono b4.size)
      exact ⟨(hb3.cell (p := ⟨gb, _, none⟩) hlt).trans hc, Nat.lt_of_lt_of_le hlt b4.size, Nat.lt_of_lt_of_le hrl b4.size, fun j z hz => (hb3.cell (p := ⟨rb, _, none⟩) hrl).trans (hrc j z hz)⟩
  have hxg4 : xg < w4.heap.size := Nat.lt_of_lt_of_le hxg B34.size
  clear c0 c2 c4 b1 b2 b3 b4 B2 B3 B4 b24 B34 HX HXC HS hxg
  have hZ : (w4.alloc (.cells #[.int .i64 0, .int .i64 0, .int .i64 0, .int .i64 0, .int .i64 0] 34)).heap[w4.heap.size]? = some (.cells #[.int .i64 0, .int .i64 0, .int .i64 0, .int .i64 0, .int .i64 0] 34 (0, 0)) := World.alloc_heap_new _ _
  have hB5 : Below w4.heap.size w4 (w4.alloc (.cells #[.int .i64 0, .int .i64 0, .int .i64 0, .int .i64 0, .int .i64 0] 34)) := (Below.refl _ _).alloc (Nat.le_refl _) _
  go_upto_region 11 with fail
  generalize w4.alloc (.cells #[.int .i64 0, .int .i64 0, .int .i64 0, .int .i64 0, .int .i64 0] 34) = w5 at hZ hB5 ⊢
  have hof : OfC w5 l w4.heap.size 0 (fun _ => 0) := ⟨fun a ha => by
    match a, ha with
    | 0, _ => simp [World.cell?, hZ]
    | 1, _ => simp [World.cell?, hZ]
    | 2, _ => simp [World.cell?, hZ]
    | 3, _ => simp [World.cell?, hZ]
    | 4, _ => simp [World.cell?, hZ], fun a ha => by simp [World.frozen?, hZ], fun a ha m hm hlt => by omega⟩
  have HOF : Hid (OfC w5 l w4.heap.size 0 (fun _ => 0)) := hof
  clear hof hZ
  go_upto_region 12 with fail
  go_loopw [12] (fun s12 wr => ∃ (i : Nat) (f : Nat → Int), i ≤ n ∧ s12 = .int .i64 i ∧ Hid (OfC wr l w4.heap.size i f) ∧ Below w4.heap.size w4 wr) (fun s12 _ => n - (intOf s12).toNat)
  case atStart => exact ⟨0, _, Nat.zero_le _, rfl, HOF, hB5⟩
  case round =>
    rename World => wo
    clear HOF hB5
    obtain ⟨i, f, hi, rfl, HO, hbo⟩ := hrel
    by_cases hin : i < n
    · have hii : (i : Int) < (n : Int) := by omega
      obtain ⟨gb, go, rb, ro, rc, g, rfl, hg, HC⟩ := HS4.out i hin
      have HCH : Hid (∀ W, Below w4.heap.size w4 W → W.cell? ⟨gb, go + i, none⟩ = some (.slice (some ⟨rb, ro, none⟩) g.length rc) ∧ gb < w4.heap.size ∧ rb < w4.heap.size ∧ ∀ (j : Nat) z, g[j]? = some z → W.cell? ⟨rb, ro + j, none⟩ = some (.int .i64 z)) := HC
      obtain ⟨b0, hb0, hld, hge, hri, hg0, hgm⟩ := ring_at hg
      have HM : Hid (∀ (k : Nat) z, g[k]? = some z → ∃ a : Nat, z = (a : Int) ∧ a < 5 ∧ both l b0 a = true ∧ Idx l a i) := hgm
      have HG0 : Hid (g[0]? = some (b0 : Int)) := hg0
      have HGE : Hid (g = grp l b0 ∧ lead l b0 = true ∧ (ringsTo l b0).length = i) := ⟨hge, hld, hri⟩
      have hgl : g.length ≤ 5 := by rw [hge]; exact grpTo_len l b0 5
      clear hg hge hld hri hg0 hgm HC
      go_upto_region 15 with fail
      go_loopw [13] (fun s13 wr => ∃ (k : Nat) (f : Nat → Int), k ≤ g.length ∧ s13 = .int .i64 k ∧ Hid (OfK wr l w4.heap.size i g k f) ∧ Below w4.heap.size w4 wr) (fun s13 _ => g.length - (intOf s13).toNat)
      case atStart => exact ⟨0, f, Nat.zero_le _, rfl, HO.out.start, hbo⟩
      case round =>
        clear HO hbo
        obtain ⟨k, f, hk, rfl, HK, hbw⟩ := hrel
        obtain ⟨d0, hgb, hrb, hds⟩ := HCH.out _ hbw
        by_cases hkg : k < g.length
        · have hki : (k : Int) < (g.length : Int) := by omega
          obtain ⟨z, hz⟩ : ∃ z, g[k]? = some z := ⟨g[k], List.getElem?_eq_getElem hkg⟩
          obtain ⟨a, rfl, ha5, hba, hix⟩ := HM.out k z hz
          have HZ : Hid (g[k]? = some (a : Int)) := hz
          have HI : Hid (Idx l a i) := hix
          have d1 := hds k _ hz
          have e1 : decide ((a : Int) < 0) = false := decide_eq_false (by omega)
          have e2 : decide ((4 : Int) < (a : Int)) = false := decide_eq_false (by omega)
          have hai : (a : Int) < 5 := by omega
          have hof := HK.out.of.cells a ha5
          have hfz := HK.out.of.fz a ha5
          clear hz hix hds
          go_upto_region 20 with fail
          have bw2 : Below w4.heap.size w4 (wr.setCell ⟨w4.heap.size, a, none⟩ (.int .i64 i)) := hbw.setCell (p := ⟨w4.heap.size, a, none⟩) (Nat.le_refl _) _
          have HK2 : Hid (OfK (wr.setCell ⟨w4.heap.size, a, none⟩ (.int .i64 i)) l w4.heap.size i g (k + 1) _) := HK.out.put ha5 HZ.out HI.out
          generalize wr.setCell ⟨w4.heap.size, a, none⟩ (.int .i64 i) = W9 at bw2 HK2 ⊢
          obtain ⟨d0', _, _, hds'⟩ := HCH.out _ bw2
          have d1' := hds' k _ HZ.out
          have d2' := hds' 0 _ HG0.out
          rw [Nat.add_zero] at d2'
          have x1 := HXC4.out _ bw2 a ha5
          have x2 := HXC4.out _ bw2 b0 hb0
          rw [← lev_same HOK.out ha5 hb0 (by rw [both_comm]; exact hba)] at x2
          have hbi : (b0 : Int) < 5 := by omega
          have hg00 : 0 < g.length := by omega
          clear d0 d1 hof hfz hbw HK hds' hba
          generalize (lev l a : Int) = px at x1 x2
          go_quiet (fail)
          go_wp2
          go_roundw
          case rel => exact ⟨k + 1, _, by omega, by go_num, ⟨⟨fun a ha => (below_dN (Below.refl _ _) _ |>.cell (p := ⟨w4.heap.size, a, none⟩) (World.block_lt_of_cell? _ _ (HK2.out.of.cells a ha))).trans (HK2.out.of.cells a ha), fun a ha => (below_dN (Below.refl _ _) _ |>.frozen (p := ⟨w4.heap.size, a, none⟩) (World.block_lt_of_cell? _ _ (HK2.out.of.cells a ha))).trans (HK2.out.of.fz a ha), HK2.out.of.low⟩, HK2.out.put1⟩, below_dN bw2 _⟩
          case measure => simp [intOf]; omega
        · have hke : k = g.length := by omega
          subst hke
          have hkf : decide ((g.length : Int) < (g.length : Int)) = false := decide_eq_false (by omega)
          clear hds
          go_wp2
          go_roundw
          case rel =>
            have hk2 := HK.out
            obtain ⟨e1, e2, e3⟩ := HGE.out
            subst e1
            exact ⟨i + 1, f, by omega, by go_num, hk2.last hb0 e2 e3, hbw⟩
          case measure => simp [intOf]; omega
    · have hie : i = n := by omega
      subst hie
      have hkf : decide ((i : Int) < (i : Int)) = false := decide_eq_false (by omega)
      have HD : Hid (∀ a b, a < 5 → b < 5 → (f a == f b) = both l a b) := fun a b ha hb => by
        have := HO.out
        rw [← HN.out] at this
        exact this.done ha hb
      have HF : Hid (∀ W, Below wo.heap.size wo W → ∀ a, a < 5 → W.cell? ⟨w4.heap.size, a, none⟩ = some (.int .i64 (f a))) := fun W hb a ha => (hb.cell (p := ⟨w4.heap.size, a, none⟩) (World.block_lt_of_cell? _ _ (HO.out.cells a ha))).trans (HO.out.cells a ha)
      clear HO HS4 HN
      go_upto_region 22 with fail
      go_cut [14] from 144 to 146 (fun s14 wx => ∃ gd : Bool, s14 = .bool gd ∧ Hid (gd = true → ot.length = 5) ∧ wx = wo)
      case first =>
        by_cases h5 : ot.length = 5
        · have q5 : ((ot.length : Int) == 5) = true := by simpa using (by omega : (ot.length : Int) = 5)
          have q5' : (ot.length == 5) = true := by simpa using h5
          have q6 : decide ((ot.length : Int) = 5) = true := decide_eq_true (by omega)
          have q6' : decide (ot.length = 5) = true := decide_eq_true h5
          have H5 : Hid (ot.length = 5) := h5
          clear h5
          go_wp2_with fail
          go_meet
          case rel => exact ⟨true, rfl, fun _ => H5.out, rfl⟩
        · have q5 : ((ot.length : Int) == 5) = false := by simpa using fun e => h5 (by omega)
          have q5' : (ot.length == 5) = false := by simpa using h5
          have q6 : decide ((ot.length : Int) = 5) = false := decide_eq_false (by omega)
          have q6' : decide (ot.length = 5) = false := decide_eq_false h5
          go_wp2_with fail
          go_meet
          case rel => exact ⟨false, rfl, fun h => (by cases h), rfl⟩
      case rest =>
      obtain ⟨gd, rfl, HGD, hwx⟩ := hcut
      rw [hwx]
      clear hwx
      have HWB : Hid (∀ W, Below wo.heap.size wo W → Below w.heap.size w W) := fun W hb => (HB.out.trans (hbo.mono HB.out.size)).trans (hb.mono (Nat.le_trans HB.out.size hbo.size))
      have HXW : Hid (∀ W, Below wo.heap.size wo W → ∀ r : Nat, r < 5 → W.cell? ⟨xg, xo + r, none⟩ = some (.int .i64 (lev l r : Int))) := fun W hb r hr => HXC4.out W (hbo.trans (hb.mono hbo.size)) r hr
      have HOL : Hid (ot.length = 5 → ∃ qb qo, oa = some ⟨qb, qo, none⟩ ∧ ∀ W, Below w.heap.size w W → ∀ r : Nat, r < 5 → W.cell? ⟨qb, qo + r, none⟩ = some (.int .i64 (lvl ot r))) := fun h5 => Stp.lv HU.out h5
      clear HXC4 HB hbo HU hkf hin hi hrl
      go_upto_region 24 with fail
      go_loopw [14, 15] (fun s14 s15 wr => ∃ (gd : Bool) (i : Nat), s14 = .bool gd ∧ s15 = .int .i64 i ∧ i ≤ l.length ∧ Hid (gd = true → ot.length = 5 ∧ ∀ (j : Nat) x, j < i → l[j]? = some x → LvC l (fun r => lvl ot r) x) ∧ Below wo.heap.size wo wr) (fun _ s15 _ => l.length - (intOf s15).toNat)
      case atStart => exact ⟨gd, 0, rfl, rfl, Nat.zero_le _, fun h => ⟨HGD.out h, fun j x hj => by omega⟩, Below.refl _ _⟩
      case round =>
        clear HGD
        obtain ⟨gd, j, rfl, rfl, hj, HGD, hbw⟩ := hrel
        by_cases hjl : j < l.length
        · have hji : (j : Int) < (l.length : Int) := by omega
          obtain ⟨lb, lo, f0, t0, kk, dd, rfl, hlt, hx, c0, c1, _, _⟩ := HW.out.at hjl
          have hmem := List.mem_of_getElem? hx
          have hr := w4_rooms (HOK.out _ hmem)
          simp only at hr
          obtain ⟨fi, rfl⟩ : ∃ n : Nat, f0 = n := ⟨f0.toNat, by omega⟩
          obtain ⟨ti, rfl⟩ : ∃ n : Nat, t0 = n := ⟨t0.toNat, by omega⟩
          obtain ⟨_, hf5', _, ht5', _⟩ := hr
          have hf5 : fi < 5 := by omega
          have ht5 : ti < 5 := by omega
          have HX : Hid (l[j]? = some ((fi : Int), (ti : Int), kk, dd)) := hx
          have HM : Hid (((fi : Int), (ti : Int), kk, dd) ∈ l) := hmem
          clear hx hmem
          have bW := HWB.out _ hbw
          replace c0 := (bW.cell (p := ⟨lb, _, none⟩) hlt).trans c0
          replace c1 := (bW.cell (p := ⟨lb, _, none⟩) hlt).trans c1
          have g0 := HF.out _ hbw fi hf5
          have g1 := HF.out _ hbw ti ht5
          have x0 := HXW.out _ hbw fi hf5
          have x1 := HXW.out _ hbw ti ht5
          have hd := HD.out fi ti hf5 ht5
          have hxe : ((lev l fi : Int) == (lev l ti : Int)) = both l fi ti := by
            cases hb : both l fi ti with
            | true => rw [lev_same HOK.out hf5 ht5 hb]; simp
            | false =>
              have := lev_up HOK.out HM.out (by simpa using hb)
              simp only [Int.toNat_natCast] at this
              simp only [beq_eq_false_iff_ne, ne_eq]
              omega
          generalize (lev l fi : Int) = px at x0 hxe
          generalize (lev l ti : Int) = qx at x1 hxe
          generalize f fi = pf at g0 hd
          generalize f ti = qf at g1 hd
          have HSt : Hid (∀ gd' : Bool, (gd' = true → gd = true ∧ (lvl ot (fi : Int) < lvl ot (ti : Int) ∨ (both l fi ti = true ∧ lvl ot (fi : Int) = lvl ot (ti : Int)))) → (gd' = true → ot.length = 5 ∧ ∀ (j2 : Nat) x, j2 < j + 1 → l[j2]? = some x → LvC l (fun r => lvl ot r) x)) := fun gd' hg he => by
            obtain ⟨h1, h2⟩ := HGD.out (hg he).1
            refine ⟨h1, fun j2 x hj2 hx2 => ?_⟩
            by_cases e : j2 = j
            · subst e
              rw [HX.out] at hx2
              obtain rfl := Option.some.inj hx2
              have := (hg he).2
              unfold LvC
              simpa using this
            · exact h2 j2 x (by omega) hx2
          go_upto_region 26 with fail
          cases gd with
          | false =>
            cases hbo : both l fi ti with
            | true =>
              rw [hbo] at hd hxe
              go_quiet (fail)
              go_upto_region 27 with fail
              go_quiet (fail)
              go_upto_region 29 with fail
              go_quiet (fail)
              go_wp2
              go_roundw
              case rel => exact ⟨false, j + 1, rfl, by go_num, by omega, HSt.out false (fun h => by cases h), below_dN hbw _⟩
              case measure => simp [intOf]; omega
            | false =>
              rw [hbo] at hd hxe
              go_quiet (fail)
              go_upto_region 27 with fail
              go_quiet (fail)
              go_upto_region 29 with fail
              go_quiet (fail)
              go_wp2
              go_roundw
              case rel => exact ⟨false, j + 1, rfl, by go_num, by omega, HSt.out false (fun h => by cases h), below_dN hbw _⟩
              case measure => simp [intOf]; omega
          | true =>
            obtain ⟨h5, _⟩ := HGD.out rfl
            obtain ⟨qb, qo, rfl, hoc⟩ := HOL.out h5
            have hfo : (fi : Int) < (ot.length : Int) := by omega
            have hto : (ti : Int) < (ot.length : Int) := by omega
            have o0 := hoc wr bW fi hf5
            have o1 := hoc wr bW ti ht5
            clear hoc h5 HGD HOL
            generalize lvl ot (fi : Int) = po at o0 HSt
            generalize lvl ot (ti : Int) = qo' at o1 HSt
            by_cases hlt2 : po < qo'
            · have HLT : Hid (po < qo') := hlt2
              have d1 : decide (po < qo') = true := decide_eq_true hlt2
              clear hlt2
              cases hbo : both l fi ti with
              | true =>
                rw [hbo] at hd hxe
                go_quiet (fail)
                go_upto_region 27 with fail
                go_quiet (fail)
                go_upto_region 29 with fail
                go_quiet (fail)
                go_wp2
                go_roundw
                case rel => exact ⟨true, j + 1, rfl, by go_num, by omega, HSt.out true (fun _ => ⟨rfl, Or.inl HLT.out⟩), below_dN hbw _⟩
                case measure => simp [intOf]; omega
              | false =>
                rw [hbo] at hd hxe
                go_quiet (fail)
                go_upto_region 27 with fail
                go_quiet (fail)
                go_upto_region 29 with fail
                go_quiet (fail)
                go_wp2
                go_roundw
                case rel => exact ⟨true, j + 1, rfl, by go_num, by omega, HSt.out true (fun _ => ⟨rfl, Or.inl HLT.out⟩), below_dN hbw _⟩
                case measure => simp [intOf]; omega
            · have d1 : decide (po < qo') = false := decide_eq_false hlt2
              clear hlt2
              cases hbo : both l fi ti with
              | false =>
                rw [hbo] at hd hxe
                go_quiet (fail)
                go_upto_region 27 with fail
                go_quiet (fail)
                go_upto_region 29 with fail
                go_quiet (fail)
                go_wp2
                go_roundw
                case rel => exact ⟨false, j + 1, rfl, by go_num, by omega, HSt.out false (fun h => by cases h), below_dN hbw _⟩
                case measure => simp [intOf]; omega
              | true =>
                have HBO : Hid (both l fi ti = true) := hbo
                rw [hbo] at hd hxe
                clear hbo
                by_cases heq : po = qo'
                · have HEQ : Hid (po = qo') := heq
                  have d2 : (po == qo') = true := by simpa using heq
                  clear heq
                  go_quiet (fail)
                  go_upto_region 27 with fail
                  go_quiet (fail)
                  go_upto_region 29 with fail
                  go_quiet (fail)
                  go_wp2
                  go_roundw
                  case rel => exact ⟨true, j + 1, rfl, by go_num, by omega, HSt.out true (fun _ => ⟨rfl, Or.inr ⟨HBO.out, HEQ.out⟩⟩), below_dN hbw _⟩
                  case measure => simp [intOf]; omega
                · have d2 : (po == qo') = false := by simpa using heq
                  clear heq
                  go_quiet (fail)
                  go_upto_region 27 with fail
                  go_quiet (fail)
                  go_upto_region 29 with fail
                  go_quiet (fail)
                  go_wp2
                  go_roundw
                  case rel => exact ⟨false, j + 1, rfl, by go_num, by omega, HSt.out false (fun h => by cases h), below_dN hbw _⟩
                  case measure => simp [intOf]; omega
        · have hje : j = l.length := by omega
          subst hje
          have hkf : decide ((l.length : Int) < (l.length : Int)) = false := decide_eq_false (by omega)
          have HG3 : Hid (gd = true → ot.length = 5 ∧ ∀ x ∈ l, LvC l (fun r => lvl ot r) x) := fun h => ⟨(HGD.out h).1, fun x hx => by
            obtain ⟨j, hj⟩ := List.mem_iff_getElem?.1 hx
            exact (HGD.out h).2 j x (List.getElem?_eq_some_iff.1 hj).1 hj⟩
          clear HGD HF HD HW hj hjl
          go_upto_region 31 with fail
          go_loopw [14, 17] (fun s14 s17 wr => ∃ (gd : Bool) (i : Nat), s14 = .bool gd ∧ s17 = .int .i64 i ∧ i ≤ 5 ∧ Hid (gd = true → (ot.length = 5 ∧ ∀ x ∈ l, LvC l (fun r => lvl ot r) x) ∧ ∀ r : Nat, r < i → 0 ≤ lvl ot r) ∧ Below wo.heap.size wo wr) (fun _ s17 _ => 5 - (intOf s17).toNat)
          case atStart => exact ⟨gd, 0, rfl, rfl, Nat.zero_le _, fun h => ⟨HG3.out h, fun r hr => by omega⟩, hbw⟩
          case round =>
            clear HG3 hbw
            obtain ⟨gd, i, rfl, rfl, hi, HG, hbw⟩ := hrel
            have bW := HWB.out _ hbw
            cases gd with
            | false =>
              by_cases hi5 : i < 5
              · have hd5 : decide ((i : Int) < 5) = true := decide_eq_true (by omega)
                go_upto_region 36 with fail
                refine wp_loop_rounds 1 ?_
                rw [rounds_succ]
                go_wp2
                go_ret
                exact ⟨rfl, bW⟩
              · have hd5 : decide ((i : Int) < 5) = false := decide_eq_false (by omega)
                go_upto_region 36 with fail
                refine wp_loop_rounds 1 ?_
                rw [rounds_succ]
                go_wp2
                go_ret
                exact ⟨rfl, bW⟩
            | true =>
              obtain ⟨⟨h5, hLv⟩, hpos⟩ := HG.out rfl
              obtain ⟨qb, qo, rfl, hoc⟩ := HOL.out h5
              by_cases hi5 : i < 5
              · have hd5 : (i : Int) < 5 := by omega
                have hio : (i : Int) < (ot.length : Int) := by omega
                have o0 := hoc _ bW i hi5
                have HPo : Hid (∀ gd' : Bool, (gd' = true → 0 ≤ lvl ot (i : Int)) → gd' = true → (ot.length = 5 ∧ ∀ x ∈ l, LvC l (fun r => lvl ot r) x) ∧ ∀ r : Nat, r < i + 1 → 0 ≤ lvl ot r) := fun gd' hg he => ⟨⟨h5, hLv⟩, fun r hr => by
                  by_cases e : r = i
                  · subst e; exact hg he
                  · exact hpos r (by omega)⟩
                clear hoc HG hpos hLv h5 HOL
                generalize lvl ot (i : Int) = po at o0 HPo
                by_cases hneg : po < 0
                · have d1 : decide (po < 0) = true := decide_eq_true hneg
                  clear hneg
                  go_wp2
                  go_roundw
                  case rel => exact ⟨false, i + 1, rfl, by go_num, by omega, HPo.out false (fun h => by cases h), hbw⟩
                  case measure => simp [intOf]; omega
                · have d1 : decide (po < 0) = false := decide_eq_false hneg
                  have HPN : Hid (0 ≤ po) := by show 0 ≤ po; omega
                  clear hneg
                  go_wp2
                  go_roundw
                  case rel => exact ⟨true, i + 1, rfl, by go_num, by omega, HPo.out true (fun _ => HPN.out), hbw⟩
                  case measure => simp [intOf]; omega
              · have hie : i = 5 := by omega
                subst hie
                have hd5 : decide ((((5 : Nat) : Int)) < 5) = false := decide_eq_false (by omega)
                have HLE : Hid (∀ r : Nat, r < 5 → (lev l r : Int) ≤ lvl ot (r : Int)) := fun r hr => lev_least (o := fun r => lvl ot (r : Int)) HOK.out (fun r hr => hpos r hr) hLv hr
                have HOC : Hid (∀ W, Below wo.heap.size wo W → ∀ r : Nat, r < 5 → W.cell? ⟨qb, qo + r, none⟩ = some (.int .i64 (lvl ot (r : Int)))) := fun W hb r hr => hoc W (HWB.out W hb) r hr
                have H5 : Hid (ot.length = 5) := h5
                clear hoc HG hpos hLv HOL h5 hi hi5
                go_upto_region 36 with fail
                go_loopw [18] (fun s18 wr => ∃ i : Nat, s18 = .int .i64 i ∧ i ≤ 5 ∧ Below wo.heap.size wo wr) (fun s18 _ => 5 - (intOf s18).toNat)
                case atStart => exact ⟨0, rfl, Nat.zero_le _, hbw⟩
                case round =>
                  clear hbw bW
                  obtain ⟨i, rfl, hi, hbw⟩ := hrel
                  have bW := HWB.out _ hbw
                  by_cases hi5 : i < 5
                  · have hd5' : (i : Int) < 5 := by omega
                    have hio : (i : Int) < (ot.length : Int) := by have := H5.out; omega
                    have o0 := HOC.out _ hbw i hi5
                    have x0 := HXW.out _ hbw i hi5
                    have d1 : decide (lvl ot (i : Int) < (lev l i : Int)) = false := decide_eq_false (by have := HLE.out i hi5; omega)
                    generalize lvl ot (i : Int) = po at o0 d1
                    generalize (lev l i : Int) = px at x0 d1
                    go_upto_region 38 with fail
                    go_quiet (fail)
                    go_wp2
                    go_roundw
                    case rel => exact ⟨i + 1, by go_num, by omega, below_dN hbw _⟩
                    case measure => simp [intOf]; omega
                  · have hdf : decide ((i : Int) < 5) = false := decide_eq_false (by omega)
                    go_wp2
                    go_ret
                    exact ⟨rfl, bW⟩
theorem lup_of {G : World → Prop} (hall : ∀ w w', G w → Below w.heap.size w w' → G w') (hL : LevLeast G) (hR : LevRings G) (l : List W4) (v u : Value) (ot : List Int) (w : World) (hG : G w) (hl : Wrs w v l) (hu : Stp w u ot) :
    Calls Try.prog 3 #[v, u] w fun e w' => e = .returned (.bool true) ∧ Below w.heap.size w w' := by
  by_cases h : (wschk l).2 = 0
  · exact lup_ok hall hL hR l v u ot w hG hl hu h
  · exact lup_bad hall hL hR l v u ot w hG hl hu h
end Go.Proofs.Ytbnliibgnnegeag

/-
  GPut, SuRowOf, SuW: joined into one text.
-/
import Derived.Test.YtfconbblnmbnpahGreatDoorJc11
import Derived.Test.YtfconbblnmbnpahGreatDoorJc4
import Derived.Test.YtfconbblnmbnpahGreatDoorJc1
import Derived.Test.YtfconbblnmbnpahGreatDoorJc13
import Derived.Deep.RegionWith
import Derived.RangeFuncNested
namespace Go.Proofs.YtfconbblnmbnpahGreatDoor
open Go.RowKit

set_option maxRecDepth 100000 in
set_option maxHeartbeats 8000000 in
theorem gput_ok (p : PD) (k : KD) (kb base : Nat) (a : GW) (r : Nat) (s' : St) (w : World) (hfm : Forms w) (h : GK w base p k kb a) (hp : plchk p = 0) (hk : KOk p k) (hr : r < p.code.length) (hs : ∀ c, p.code[r]? = some c → stOk s' c.length = true) :
    Calls Tryz.prog 98 #[.pointer (some ⟨kb, 0, none⟩), .int .i64 r, stA s'] w fun e w' => e = .returned .nilIface ∧ GK w' base p ⟨k.rooms.set r s', k.lines, k.time⟩ kb a ∧ KTouch [a.rb] w w' := by
  have hcz := (plchk_zero hp).2.2.2.2.2.2.1
  have hrk : k.rooms.length = p.code.length := hk.rl
  have hcd := h.src.here.1
  obtain ⟨ca, cc, hcv⟩ := hcd.form
  rw [hcv] at hcd
  obtain ⟨cb, co, ua, un, ug, c, rfl, hclt, hcy, hcc, rfl, hops⟩ := hcd.at hr
  have hrc : rchk c s' = 0 := by
    unfold rchk
    rw [if_pos (codesE_zero hcz c (List.mem_of_getElem? hcy)), if_pos (hs c hcy)]
  have HC : Hid (∀ W, Below w.heap.size w W → Calls Tryz.prog 131 #[.slice ua c.length ug, .agg #[.int .i64 s'.p, .int .i64 (s'.c 0), .int .i64 (s'.c 1), .int .i64 (s'.c 2), .int .i64 (s'.c 3), .int .i64 (s'.c 4), .int .i64 (s'.c 5), .bool s'.f]] W fun e w' => e = .returned .nilIface ∧ Below W.heap.size W w') := fun W hb => by
    have := rcheck_any c (.slice ua c.length ug) s' W (hfm.all hb) (hops.all hb)
    rw [hrc] at this
    exact this
  have hkb := h.lt.1
  have c0 := h.c0
  rw [hcv] at c0
  have c3 := h.c3
  rw [hrk] at c3
  have hri : (r : Int) < (p.code.length : Int) := by omega
  obtain ⟨s, hsr⟩ : ∃ s, k.rooms[r]? = some s := ⟨_, List.getElem?_eq_getElem (by omega)⟩
  have H : Hid (GK w base p k kb a) := h
  have HSR : Hid (k.rooms[r]? = some s) := hsr
  have hA : Below w.heap.size w (w.alloc (.cells #[.int .i64 s'.p, .int .i64 (s'.c 0), .int .i64 (s'.c 1), .int .i64 (s'.c 2), .int .i64 (s'.c 3), .int .i64 (s'.c 4), .int .i64 (s'.c 5), .bool s'.f] 117)) := (Below.refl _ _).alloc (Nat.le_refl _) _
  have hB : StB (w.alloc (.cells #[.int .i64 s'.p, .int .i64 (s'.c 0), .int .i64 (s'.c 1), .int .i64 (s'.c 2), .int .i64 (s'.c 3), .int .i64 (s'.c 4), .int .i64 (s'.c 5), .bool s'.f] 117)) w.heap.size s' := World.alloc_heap_new _ _
  have hnk := World.new_ne w ⟨kb, 3, none⟩ c3
  unfold stA
  clear h hs hcd hops hcy hrc hsr hcv hcz hk hfm
  go_enter Tryz.func98, Tryz.ntmps98
  go_upto_region 3 with (go_at_call 91; refine (kbelow_yes _ _ _ (by omega) hri).mono ?_; rintro e w1 ⟨rfl, hw1⟩; subst hw1)
  generalize w.alloc (.cells #[.int .i64 s'.p, .int .i64 (s'.c 0), .int .i64 (s'.c 1), .int .i64 (s'.c 2), .int .i64 (s'.c 3), .int .i64 (s'.c 4), .int .i64 (s'.c 5), .bool s'.f] 117) = W0 at hA hB ⊢
  have k0 : W0.cell? ⟨kb, 0, none⟩ = some (.slice (some ⟨cb, co, none⟩) p.code.length cc) := (hA.cell (p := ⟨kb, 0, none⟩) hkb).trans c0
  have k1 : W0.cell? ⟨cb, co + r, none⟩ = some (.slice ua c.length ug) := (hA.cell (p := ⟨cb, co + r, none⟩) hclt).trans hcc
  obtain ⟨n0, n1, n2, n3, n4, n5, n6, n7⟩ := hB.cs
  simp only [Nat.zero_add] at n1 n2 n3 n4 n5 n6 n7
  have bQ : Below w.heap.size w W0.drew := hA.drew
  go_cut [7] from 17 to 25 (fun s7 wx => s7 = .nilIface ∧ Below W0.heap.size W0 wx)
  case first =>
    go_region_with (go_at_call 131; refine (HC.out _ bQ).mono ?_; rintro e w1 ⟨rfl, b1⟩)
    all_goals
      go_wp2_with fail
      go_meet
      case rel => exact ⟨rfl, (Below.refl _ W0).drew.trans (b1.mono (Nat.le_refl _))⟩
  case rest =>
  obtain ⟨rfl, hb2⟩ := hcut
  have hb3 : Below w.heap.size w wc := hA.trans (hb2.mono hA.size)
  have hB3 : StB wc w.heap.size s' := (hb2.block _ (Array.getElem?_eq_some_iff.1 hB).1).trans hB
  clear n0 n1 n2 n3 n4 n5 n6 n7 k0 k1 hB hA hb2 bQ HC
  generalize wc = W3 at *
  obtain ⟨n0, n1, n2, n3, n4, n5, n6, n7⟩ := hB3.cs
  simp only [Nat.zero_add] at n1 n2 n3 n4 n5 n6 n7
  have D := H.out.all hb3
  have k3 := D.c3
  rw [hrk] at k3
  have hth : ∀ nq, (W3.drewN nq).there a.rb (r * 8) 8 := fun nq => there_st (D.rooms r s HSR.out) D.rf nq
  go_upto_region 6 with fail
  go_cut [29] from 29 to 35 (fun _ wx => ∃ nq, wx = setSt (W3.drewN nq) a.rb (r * 8) s')
  case first =>
    refine wp_region_quiet_last (by kernel_rfl) rfl (by decide +kernel) (by decide +kernel) ?_
    simp only [List.dropLast_cons_cons, List.dropLast_singleton]
    repeat (go_big_quiet_step (fail))
    refine wpQuiet_nil ?_
    intro _ hw'
    obtain ⟨nq, hw''⟩ := hw'
    subst hw''
    refine wp_store_mid _ _ _ rfl a.rb (r * 8) _ rfl rfl (hth nq) rfl (by simp [Value.oneCell']) ?_
    go_wp2_with fail
    go_meet
    case rel => exact ⟨nq, rfl⟩
  case rest =>
  obtain ⟨nq, hwx⟩ := hcut
  have bN : Below W3.heap.size W3 (W3.drewN nq) := below_dN (Below.refl _ _) nq
  have D9 := (D.all bN).set HSR.out s'
  have tk9 : KTouch [a.rb] W3 (setSt (W3.drewN nq) a.rb (r * 8) s') := (KTouch.of bN).trans (setSt_touch _ (by simp) _ _)
  rw [← hwx] at D9 tk9
  have tkw : KTouch [a.rb] w wc := (KTouch.of hb3).trans tk9
  clear hwx
  go_wp2
  go_ret
  exact ⟨rfl, D9, tkw⟩
end Go.Proofs.YtfconbblnmbnpahGreatDoor
namespace Go.Proofs.YtfconbblnmbnpahGreatDoor
open Go.RowKit

set_option maxRecDepth 100000 in
set_option maxHeartbeats 2000000 in
theorem surow_bad (n : Int) (l : List S3) (v : Value) (r : Int) (w : World) (hl : Sps w v l) (h : supE n l r ≠ 0) :
    Calls Tryz.prog 52 #[.int .i64 n, v, .int .i64 r] w fun e w' => e = .returned (.tuple #[.slice none 0 0, .iface 91 (.int .i64 (supE n l r))]) ∧ Below w.heap.size w w' := by
  have b0 : Below w.heap.size w (w.alloc (.cells #[.int .i64 r] 3)) := (Below.refl _ _).alloc (Nat.le_refl _) _
  have hch := fcheck_any n l v _ (hl.all b0)
  obtain ⟨ao, cap, rfl⟩ := hl.form
  clear hl
  by_cases h0 : (fchk n l).2 = 0
  · rw [h0, show fErr 0 = .nilIface from rfl] at hch
    have he : supE n l r = 1 := by
      unfold supE at h ⊢
      rw [if_pos h0] at h ⊢
      split at h
      · rename_i hr; rw [if_pos hr]
      · exact absurd rfl h
    have hr : r < 0 ∨ 4 < r := by
      unfold supE at he
      rw [if_pos h0] at he
      split at he
      · assumption
      · cases he
    rw [he]
    clear he h h0
    by_cases h1 : r < 0
    · clear hr
      go_enter Tryz.func52, Tryz.ntmps52
      go_wp2_with (go_at_call 93; refine hch.mono ?_; rintro e w1 ⟨rfl, b1⟩; clear hch; have c0 : w1.cell? ⟨w.heap.size, 0, none⟩ = some (.int .i64 r) := (b1.cell (p := ⟨w.heap.size, 0, none⟩) (by simp)).trans (by simp))
      go_ret2
      exact ⟨rfl, b0.trans (b1.mono (by simp))⟩
    · have h1' : decide (r < 0) = false := by simpa using h1
      have h2' : decide (5 ≤ r) = true := by simp; omega
      clear hr
      go_enter Tryz.func52, Tryz.ntmps52
      go_wp2_with (go_at_call 93; refine hch.mono ?_; rintro e w1 ⟨rfl, b1⟩; clear hch; have c0 : w1.cell? ⟨w.heap.size, 0, none⟩ = some (.int .i64 r) := (b1.cell (p := ⟨w.heap.size, 0, none⟩) (by simp)).trans (by simp))
      go_ret2
      exact ⟨rfl, b0.trans (b1.mono (by simp))⟩
  · rw [fErr_not h0] at hch
    have he : supE n l r = (fchk n l).2 := by unfold supE; rw [if_neg h0]
    rw [he]
    generalize (fchk n l).2 = q at hch
    generalize (fchk n l).1 = q1 at hch
    clear he h h0
    go_enter Tryz.func52, Tryz.ntmps52
    go_wp2_with (go_at_call 93; refine hch.mono ?_; rintro e w1 ⟨rfl, b1⟩; clear hch)
    go_ret2
    exact ⟨rfl, b0.trans (b1.mono (by simp))⟩
theorem RwN.congr {w : World} {g n : Nat} {P Q : Nat → Bool} (h : RwN w g n P) (hq : ∀ i, i < n → P i = Q i) : RwN w g n Q := fun i hi => by rw [← hq i hi]; exact h i hi
theorem rwn_new (W : World) (n : Nat) (P : Nat → Bool) (hP : ∀ i, i < n → P i = false) : RwN (W.alloc (.cells (madeCells #[.bool false] n) 4)) W.heap.size n P := fun i hi => by
  have hN := World.alloc_heap_new W (.cells (madeCells #[.bool false] n) 4)
  rw [hP i hi]
  generalize W.alloc (.cells (madeCells #[.bool false] n) 4) = W2 at hN ⊢
  constructor
  · simp [World.cell?, hN, madeCells, hi, Nat.mod_one]
  · simp [World.frozen?, hN]
set_option maxRecDepth 100000 in
set_option maxHeartbeats 4000000 in
theorem surow_ok (n : Nat) (l : List S3) (v : Value) (r : Int) (w : World) (hl : Sps w v l) (h : supE n l r = 0) :
    Calls Tryz.prog 52 #[.int .i64 n, v, .int .i64 r] w fun e w' => ∃ g, e = .returned (.tuple #[.slice (some ⟨g, 0, none⟩) n n, .nilIface]) ∧ Rw w' g n (hasT n l r) ∧ Below w.heap.size w w' := by
  obtain ⟨h0, hr0, hr4⟩ := supE_zero h
  obtain ⟨hn1, hn2, hlen, _, hz⟩ := fchk_zero h0
  have b0 : Below w.heap.size w (w.alloc (.cells #[.int .i64 r] 3)) := (Below.refl _ _).alloc (Nat.le_refl _) _
  have hch := fcheck_any n l v _ (hl.all b0)
  rw [hz, show fErr (0, 0).2 = .nilIface from rfl] at hch
  have HRow : Hid (∀ t : Nat, t < n → l.any (mine r t) = hasT n l r t) := fun t ht => hasT_row h0 hr0 ht
  have HCon : Hid (∀ (tb : Nat) (t : Int) (W : World), Below w.heap.size w W → W.cell? ⟨w.heap.size, 0, none⟩ = some (.int .i64 r) → W.cell? ⟨tb, 0, none⟩ = some (.int .i64 t) → Calls Tryz.prog 94 #[v, .func (.func 95) #[] #[.pointer (some ⟨w.heap.size, 0, none⟩), .pointer (some ⟨tb, 0, none⟩)]] W fun e w' => e = .returned (.bool (l.any (mine r t))) ∧ Below W.heap.size W w') := fun tb t W hb k0 k1 => conMine l v r t w.heap.size tb W k0 k1 hlen (hl.all hb)
  have h1' : decide (r < 0) = false := by simp; omega
  have h2' : decide (5 ≤ r) = false := by simp; omega
  have hmk := made_row n (by omega)
  obtain ⟨ao, cap, rfl⟩ := hl.form
  have hn40 : n ≤ 40 := by omega
  clear hl h h0 hz hlen
  go_enter Tryz.func52, Tryz.ntmps52
  go_upto_region 6 with (go_at_call 93; refine hch.mono ?_; rintro e w1 ⟨rfl, b1⟩; clear hch; have c0 : w1.cell? ⟨w.heap.size, 0, none⟩ = some (.int .i64 r) := (b1.cell (p := ⟨w.heap.size, 0, none⟩) (by simp)).trans (by simp))
  have HB1 : Hid (Below w.heap.size w w1) := b0.trans (b1.mono (by simp))
  have hs1 : w.heap.size + 1 ≤ w1.heap.size := by have := b1.size; simp at this; omega
  have HN : Hid (RwN (w1.alloc (.cells (madeCells #[.bool false] n) 4)) w1.heap.size n (fun i => if i < 0 then hasT n l r i else false)) := rwn_new w1 n _ (fun i _ => by simp)
  have HB2 : Hid (Below w.heap.size w (w1.alloc (.cells (madeCells #[.bool false] n) 4))) := HB1.out.alloc HB1.out.size _
  have HC2 : Hid ((w1.alloc (.cells (madeCells #[.bool false] n) 4)).cell? ⟨w.heap.size, 0, none⟩ = some (.int .i64 r)) := (((Below.refl _ w1).alloc (Nat.le_refl _) _).cell (p := ⟨w.heap.size, 0, none⟩) (show w.heap.size < w1.heap.size by omega)).trans c0
  have hs2 : w1.heap.size + 1 ≤ (w1.alloc (.cells (madeCells #[.bool false] n) 4)).heap.size := by simp
  clear b0 b1 HB1 c0
  go_wp2
  generalize w1.alloc (.cells (madeCells #[.bool false] n) 4) = w2 at HN HB2 HC2 hs2 ⊢
  generalize w1.heap.size = g at HN hs1 hs2 ⊢
  clear hmk
  go_loopw [31] (fun s31 wr => ∃ k : Nat, k ≤ n ∧ s31 = .int .i64 k ∧ Hid (RwN wr g n (fun i => if i < k then hasT n l r i else false)) ∧ Hid (wr.cell? ⟨w.heap.size, 0, none⟩ = some (.int .i64 r)) ∧ g + 1 ≤ wr.heap.size ∧ Hid (Below w.heap.size w wr)) (fun s31 _ => n - (intOf s31).toNat)
  case atStart => exact ⟨0, Nat.zero_le _, rfl, HN, HC2, hs2, HB2⟩
  case round =>
    clear HN HC2 hs2 HB2
    obtain ⟨k, hk, rfl, HR, HC, hs, HB⟩ := hrel
    by_cases hkn : k < n
    · have hki : (k : Int) < (n : Int) := by omega
      go_upto_region 10 with fail
      have bt : Below wr.heap.size wr (wr.alloc (.cells #[.int .i64 (k : Int)] 3)) := (Below.refl _ _).alloc (Nat.le_refl _) _
      have hst : wr.heap.size < (wr.alloc (.cells #[.int .i64 (k : Int)] 3)).heap.size := by simp
      have ct : (wr.alloc (.cells #[.int .i64 (k : Int)] 3)).cell? ⟨wr.heap.size, 0, none⟩ = some (.int .i64 (k : Int)) := by simp
      generalize wr.alloc (.cells #[.int .i64 (k : Int)] 3) = wt at bt hst ct ⊢
      have hq := HCon.out wr.heap.size (k : Int) wt.drew ((HB.out.trans (bt.mono HB.out.size)).drew) ((bt.cell (p := ⟨w.heap.size, 0, none⟩) (show w.heap.size < wr.heap.size by omega)).trans HC.out) ct
      rw [HRow.out k hkn] at hq
      generalize hb : hasT n l r k = b at hq
      have HBT : Hid (Below w.heap.size w wt) := HB.out.trans (bt.mono HB.out.size)
      have HRT : Hid (RwN wt g n (fun i => if i < k then hasT n l r i else false)) := HR.out.below bt (by omega)
      have HCT : Hid (wt.cell? ⟨w.heap.size, 0, none⟩ = some (.int .i64 r)) := (bt.cell (p := ⟨w.heap.size, 0, none⟩) (show w.heap.size < wr.heap.size by omega)).trans HC.out
      have HK : Hid (∀ W, Below wt.drew.heap.size wt.drew W → W.cell? ⟨wr.heap.size, 0, none⟩ = some (.int .i64 (k : Int)) ∧ (∃ c, W.cell? ⟨g, k, none⟩ = some (.bool c)) ∧ W.frozen? ⟨g, k, none⟩ = false) := fun W hW => ⟨(hW.cell (p := ⟨wr.heap.size, 0, none⟩) hst).trans ct, ⟨_, (hW.cell (p := ⟨g, k, none⟩) (show g < wt.heap.size by omega)).trans (HRT.out k hkn).1⟩, (hW.frozen (p := ⟨g, k, none⟩) (show g < wt.heap.size by omega)).trans (HRT.out k hkn).2⟩
      have HHB : Hid (hasT n l r k = b) := hb
      obtain ⟨⟨c0, hc0⟩, hf0⟩ := (HK.out wt.drew (Below.refl _ _)).2
      clear hb HR HC HB
      go_region_with (go_at_call 94; refine hq.mono ?_; rintro e w3 ⟨rfl, b3⟩; obtain ⟨k1, ⟨k2c, k2⟩, k3⟩ := HK.out w3 b3)
      all_goals (
        go_wp2
        go_roundw
        case rel =>
          have b3' : Below wt.heap.size wt w3 := ((Below.refl _ wt).drew).trans b3
          have hb3 := b3'.size
          have HBB := HBT.out.trans (b3'.mono HBT.out.size)
          refine ⟨k + 1, by omega, by go_num, ?_, ?_, by simp; omega, HBB.setCell (p := ⟨g, k, none⟩) (show w.heap.size ≤ g by omega) _⟩
          · refine ((HRT.out.below b3' (by omega)).set hkn b).congr fun i hi => ?_
            by_cases e : i = k
            · subst e
              simp [HHB.out]
            · by_cases e2 : i < k
              · simp [e, e2, show i < k + 1 by omega]
              · simp [e, e2, show ¬ i < k + 1 by omega]
          · refine (World.cell?_of_block (w := w3) (a := ⟨w.heap.size, 0, none⟩) (Below.heap_setCell _ _ _ _ (show w.heap.size ≠ g by omega))).trans ?_
            exact (b3'.cell (p := ⟨w.heap.size, 0, none⟩) (show w.heap.size < wt.heap.size by omega)).trans HCT.out
        case measure => simp [intOf]; omega)
    · obtain rfl : k = n := by omega
      have HF : Hid (Rw wr g k (hasT k l r)) := ⟨by omega, fun i hi => by have := (HR.out i hi).1; simp only [if_pos hi] at this; exact this⟩
      clear HR HCon HRow
      go_wp2
      go_ret2
      exact ⟨g, rfl, HF.out, HB.out⟩
end Go.Proofs.YtfconbblnmbnpahGreatDoor
namespace Go.Proofs.YtfconbblnmbnpahGreatDoor
open Go.RowKit

set_option maxRecDepth 100000 in
set_option maxHeartbeats 2000000 in
theorem suW_any (n : Int) (l : List S3) (v : Value) (r t : Int) (w : World) (hl : Sps w v l) :
    Calls Tryz.prog 23 #[.int .i64 n, v, .int .i64 r, .int .i64 t] w fun e w' => ∃ m : Nat, e = .returned (.tuple #[.int .i64 (m : Int), wErr (waitE n l r t)]) ∧ (waitE n l r t = 0 → WaitIs (hasT n l r) n.toNat t.toNat m) ∧ (waitE n l r t ≠ 0 → m = 0) ∧ Below w.heap.size w w' := by
  by_cases h : supE n l r = 0
  · obtain ⟨h0, hr0, hr4⟩ := supE_zero h
    obtain ⟨hn1, hn2, hlen, _, _⟩ := fchk_zero h0
    obtain ⟨n, rfl⟩ : ∃ k : Nat, n = k := ⟨n.toNat, by omega⟩
    have hq := surow_ok n l v r w hl h
    obtain ⟨ao, cap, rfl⟩ := hl.form
    rw [Int.toNat_natCast]
    by_cases ht : 0 ≤ t ∧ t ≤ 100
    · obtain ⟨t, rfl⟩ : ∃ k : Nat, t = k := ⟨t.toNat, by omega⟩
      rw [Int.toNat_natCast]
      have hper : ∀ x, hasT n l r (x + n) = hasT n l r x := fun x => hasT_per l r x
      have HCn : Hid (∀ (g : Nat) (W : World), Rw W g n (hasT n l r) → Calls Tryz.prog 53 #[.slice (some ⟨g, 0, none⟩) n n, .bool true] W fun e w' => e = .returned (.bool (decide (0 < cnR (hasT n l r) 0 n))) ∧ w' = W) := fun g W hR => sucon_any (hasT n l r) g n W hR (by omega)
      by_cases hbad : t ≠ 0 ∧ cnR (hasT n l r) 0 n = 0
      · have he : waitE n l r t = 5 := by unfold waitE; rw [if_pos h, if_neg (by omega), Int.toNat_natCast, if_pos ⟨by omega, hbad.2⟩]
        rw [he, show wErr 5 = .iface 91 (.int .i64 5) from rfl]
        rw [hbad.2] at HCn
        have ht0 : (0 : Int) < (t : Int) := by omega
        have ht1 : decide ((t : Int) < 0) = false := decide_eq_false (by omega)
        have ht2 : decide ((100 : Int) < (t : Int)) = false := decide_eq_false (by omega)
        have ht3 : decide (100 < t) = false := decide_eq_false (by omega)
        clear hl h h0 he hlen hbad hper ht
        go_enter Tryz.func23, Tryz.ntmps23
        go_wp2_with (first | (go_at_call 52; refine hq.mono ?_; rintro e w1 ⟨g, rfl, hR, b1⟩; clear hq; have hC := HCn.out g w1 hR; clear HCn hR) | (go_at_call 53; refine hC.mono ?_; rintro e w3 ⟨rfl, rfl⟩; clear hC))
        go_ret2
        exact ⟨0, rfl, fun h => (by cases h), fun _ => rfl, b1⟩
      · have hsome : t ≠ 0 → 0 < cnR (hasT n l r) 0 n := fun h => by
          by_cases h5 : cnR (hasT n l r) 0 n = 0
          · exact absurd ⟨h, h5⟩ hbad
          · omega
        have he : waitE n l r t = 0 := by unfold waitE; rw [if_pos h, if_neg (by omega), Int.toNat_natCast, if_neg (fun hh => hbad ⟨by omega, hh.2⟩)]
        rw [he, show wErr 0 = .nilIface from rfl]
        have HU : Hid (∀ (g f : Nat) (W : World), f < n → Rw W g n (hasT n l r) → Calls Tryz.prog 54 #[.slice (some ⟨g, 0, none⟩) n n, .int .i64 f, .int .i64 t] W fun e w' => ∃ s : Nat, e = .returned (.int .i64 (s : Nat)) ∧ s ≤ 4000 ∧ OneW (hasT n l r) f t s ∧ w' = W) := fun g f W hf hR => suuntil_any (hasT n l r) g n f t W hR (by omega) (by omega) hper (by omega) (by omega) hsome
        have HM : Hid (∀ M, (∀ f, f < n → ∃ s, OneW (hasT n l r) f t s ∧ s ≤ M) → (∃ f, f < n ∧ OneW (hasT n l r) f t M) → WaitIs (hasT n l r) n t M) := fun M h1 h2 => wait_most (by omega) h1 h2 hper
        have hn0 : 0 < n := by omega
        have HC2 : Hid (t ≠ 0 → decide (0 < cnR (hasT n l r) 0 n) = true) := fun h => by simpa using hsome h
        have ht1 : decide ((t : Int) < 0) = false := decide_eq_false (by omega)
        have ht2 : decide ((100 : Int) < (t : Int)) = false := decide_eq_false (by omega)
        have ht3 : decide (100 < t) = false := decide_eq_false (by omega)
        have hn3 : n ≤ 40 := by omega
        generalize hasT n l r = P at *
        clear hl h h0 he hlen hbad hper hsome hn1 hn2 ht
        go_enter Tryz.func23, Tryz.ntmps23
        go_upto_region 6 with (go_at_call 52; refine hq.mono ?_; rintro e w1 ⟨g, rfl, hR, b1⟩; clear hq)
        have hC := HCn.out g w1 hR
        clear HCn
        go_cut [37] from 31 to 36 (fun s37 wc => s37 = .bool false ∧ wc = w1)
        case first =>
          by_cases ht0 : t = 0
          · subst ht0
            clear hC HU HM HC2
            go_wp2
            go_meet
            exact ⟨rfl, rfl⟩
          · rw [HC2.out ht0] at hC
            have ht4 : (0 : Int) < (t : Int) := by omega
            clear HU HM HC2
            go_wp2_with (go_at_call 53; refine hC.mono ?_; rintro e w3 ⟨rfl, rfl⟩; clear hC)
            go_meet
            exact ⟨rfl, rfl⟩
        obtain ⟨rfl, hwc⟩ := hcut
        rw [hwc]
        clear hC HC2 hwc
        go_wp2
        go_loopw [12, 40] (fun s12 s40 wr => ∃ k : Nat, k ≤ n ∧ s40 = .int .i64 k ∧ (∃ c : Nat, s12 = .int .i64 c ∧ c ≤ 4000 ∧ Hid ((∀ f, f < k → ∃ s, OneW P f t s ∧ s ≤ c) ∧ (0 < k → ∃ f, f < k ∧ OneW P f t c) ∧ (k = 0 → c = 0))) ∧ w1 = wr) (fun _ s40 _ => n - (intOf s40).toNat)
        case atStart => exact ⟨0, Nat.zero_le _, rfl, ⟨0, rfl, by omega, fun f hf => by omega, fun h => by omega, fun _ => rfl⟩, rfl⟩
        case round =>
          obtain ⟨k, hk, rfl, ⟨c, rfl, hc, HC⟩, rfl⟩ := hrel
          by_cases hkn : k < n
          · have hki : (k : Int) < (n : Int) := by omega
            have hT := HU.out g k w1 hkn hR
            go_wp2_with (go_at_call 54; refine hT.mono ?_; rintro e w4 ⟨s, rfl, hs, ho, rfl⟩; clear hT)
            go_roundw
            case rel =>
              refine ⟨k + 1, by omega, by go_num, ⟨max c s, by congr 1; first | omega | (split <;> omega), by omega, fun f hf => ?_, fun _ => ?_, fun h => by omega⟩, by trivial⟩
              · by_cases e : f = k
                · subst e; exact ⟨s, ho, by omega⟩
                · obtain ⟨s', h1, h2⟩ := HC.out.1 f (by omega)
                  exact ⟨s', h1, by omega⟩
              · by_cases hcs : s ≤ c
                · rw [Nat.max_eq_left hcs]
                  by_cases hk0 : k = 0
                  · have := HC.out.2.2 hk0
                    have hsc : s = c := by omega
                    subst hsc
                    exact ⟨k, by omega, ho⟩
                  · obtain ⟨f, h1, h2⟩ := HC.out.2.1 (by omega)
                    exact ⟨f, by omega, h2⟩
                · rw [Nat.max_eq_right (by omega)]
                  exact ⟨k, by omega, ho⟩
            case measure => simp [intOf]; omega
          · obtain rfl : k = n := by omega
            have HF : Hid (WaitIs P k t c) := HM.out c HC.out.1 (HC.out.2.1 hn0)
            clear HU
            go_wp2
            go_ret2
            exact ⟨c, rfl, fun _ => HF.out, fun h => absurd rfl h, b1⟩
    · have he : waitE n l r t = 1 := by unfold waitE; rw [if_pos h, if_pos (by omega)]
      rw [he, show wErr 1 = .iface 91 (.int .i64 1) from rfl]
      clear hl h h0 he hlen
      by_cases h1 : t < 0
      · clear ht
        go_enter Tryz.func23, Tryz.ntmps23
        go_wp2_with (go_at_call 52; refine hq.mono ?_; rintro e w1 ⟨g, rfl, hR, b1⟩; clear hq hR)
        go_ret2
        exact ⟨0, rfl, fun h => (by cases h), fun _ => rfl, b1⟩
      · have h1' : decide (t < 0) = false := by simpa using h1
        have h2 : (100 : Int) < t := by omega
        clear ht
        go_enter Tryz.func23, Tryz.ntmps23
        go_wp2_with (go_at_call 52; refine hq.mono ?_; rintro e w1 ⟨g, rfl, hR, b1⟩; clear hq hR)
        go_ret2
        exact ⟨0, rfl, fun h => (by cases h), fun _ => rfl, b1⟩
  · have hq := surow_bad n l v r w hl h
    have he : waitE n l r t = supE n l r := by unfold waitE; rw [if_neg h]
    rw [he, wErr_not h]
    obtain ⟨ao, cap, rfl⟩ := hl.form
    have HE : Hid (supE n l r ≠ 0) := h
    generalize supE n l r = q at hq HE
    clear hl h he
    go_enter Tryz.func23, Tryz.ntmps23
    go_wp2_with (go_at_call 52; refine hq.mono ?_; rintro e w1 ⟨rfl, b1⟩; clear hq)
    go_ret2
    exact ⟨0, rfl, fun h => absurd h HE.out, fun _ => rfl, b1⟩
theorem sup_wait (G : World → Prop) : SupWait G := fun n l v r t W _ hl => suW_any n l v r t W hl
end Go.Proofs.YtfconbblnmbnpahGreatDoor

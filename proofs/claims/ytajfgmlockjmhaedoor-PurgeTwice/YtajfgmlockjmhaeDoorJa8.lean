/-
  CountPlan2, PTwice: joined into one text.
-/
import Derived.Test.YtajfgmlockjmhaeDoorCountPlan
import Derived.Test.YtajfgmlockjmhaeDoorJa7
import Derived.Test.YtajfgmlockjmhaeDoorJa2
import Derived.RangeFuncNested
import Derived.Test.YtajfgmlockjmhaeDoorJa3
import Derived.Test.YtajfgmlockjmhaeDoorJa6
import Derived.Deep.RegionHeld3
import Derived.Deep.CutRange
import Derived.Deep.RegionWith
import Derived.BigQuiet
namespace Go.Proofs.YtajfgmlockjmhaeDoor
open Go.RowKit

/-- The code of a room that counts, in its block. -/
def OB (W : World) (b : Nat) : Prop := W.heap[b]? = some (.cells #[.int .i64 1, .int .i64 1, .int .i64 1, .int .i64 3, .int .i64 0, .int .i64 1] 38 (0, 0))
def opsV (b : Nat) : Value := .slice (some ⟨b, 0, none⟩) 2 2
theorem OB.lt {W : World} {b : Nat} (h : OB W b) : b < W.heap.size := (Array.getElem?_eq_some_iff.1 h).1
theorem OB.ne {W : World} {b base : Nat} {v : Value} {n : Nat} {xs : List Value} (h : OB W b) (ho : W.ownsRow base 39 1 v n xs) : some b ≠ v.ownBlock := fun e => by
  have h1 : W.heap[b]? = _ := h
  rcases ho.2 with ⟨h2, _⟩ | ⟨g, cap, cur, h2, _, h3, _⟩
  · rw [h2] at e
    cases e
  · rw [h2] at e
    simp only [Value.ownBlock, Option.some.injEq] at e
    subst e
    rw [h1] at h3
    injection h3 with h3
    injection h3 with _ h4
    exact absurd h4 (by decide)
theorem OB.ne' {W : World} {b base : Nat} {v : Value} {n : Nat} {xs : List Value} (h : OB W b) (ho : W.ownsRow base 41 3 v n xs) : some b ≠ v.ownBlock := fun e => by
  have h1 : W.heap[b]? = _ := h
  rcases ho.2 with ⟨h2, _⟩ | ⟨g, cap, cur, h2, _, h3, _⟩
  · rw [h2] at e
    cases e
  · rw [h2] at e
    simp only [Value.ownBlock, Option.some.injEq] at e
    subst e
    rw [h1] at h3
    injection h3 with h3
    injection h3 with _ h4
    exact absurd h4 (by decide)
theorem OB.ops {W : World} {b : Nat} (h : OB W b) : Ops W (opsV b) cntC := by
  have e : W.heap[b]? = _ := h
  refine Or.inr ⟨b, 0, 2, rfl, h.lt, fun i o ho => ?_⟩
  match i, ho with
  | 0, ho => simp [cntC] at ho; subst ho; simp [World.cell?, e]
  | 1, ho => simp [cntC] at ho; subst ho; simp [World.cell?, e]
  | i + 2, ho => simp [cntC] at ho
theorem cds_own {W : World} {base k : Nat} {v : Value} {bs : List Nat} (ho : W.ownsRow base 39 1 v bs.length (bs.map opsV)) (hb : ∀ b ∈ bs, OB W b) (hk : bs.length = k) : Cds W v (cntP k).code := by
  subst hk
  rcases ho.2 with ⟨h2, h3⟩ | ⟨g, cap, cur, h2, h3, h4, h5, h6, h7, h8⟩
  · refine Or.inl ⟨?_, none, 0, h2⟩
    rw [List.length_eq_zero_iff.1 h3]
    rfl
  · refine Or.inr ⟨g, 0, cap, by rw [h2]; simp [cntP], by simpa [cntP] using h5, (Array.getElem?_eq_some_iff.1 h4).1, fun i c hi => ?_⟩
    have hlt : i < bs.length := by have := (List.getElem?_eq_some_iff.1 hi).1; simpa [cntP] using this
    have hc : c = cntC := by simpa [cntP, hlt] using hi.symm
    subst hc
    have hcell := ho.cells (g := g) (by rw [h2]; rfl) i (opsV bs[i]) (by simp [hlt])
    rw [Addr.add_lit, Nat.zero_add] at hcell
    exact ⟨_, by rw [Nat.zero_add]; exact hcell, (hb _ (List.getElem_mem hlt)).ops⟩
set_option maxRecDepth 100000 in
set_option maxHeartbeats 4000000 in
theorem counting_plan (n : Nat) (w : World) (hn : n ≤ 5) :
    Calls Tryd.prog 9 #[.int .i64 n] w fun e w' => ∃ vc vs, e = .returned (plV vc n vs (.slice none 0 0)) ∧ Pln w' vc vs (.slice none 0 0) (cntP n) ∧ Below w.heap.size w w' := by
  obtain ⟨ii, hi, hz0, hz1, hz2⟩ := info_parts infoOps
  obtain ⟨jj, hj, hy0, hy1, hy2⟩ := info_parts infoSp
  go_enter Tryd.func9, Tryd.ntmps9
  go_wp2
  go_loopw [4] (fun i wr => ∃ (k : Nat) (vc vs : Value) (bs : List Nat), bs.length = k ∧ (∀ b ∈ bs, OB wr b ∧ w.heap.size + 2 ≤ b) ∧ k ≤ n ∧ i = .int .i64 k ∧ PBox wr (w.heap.size + 1) vc n vs ∧
      wr.ownsRow (w.heap.size + 2) 39 1 vc k (bs.map opsV) ∧ wr.ownsRow (w.heap.size + 2) 41 3 vs k (spCells (ones k)) ∧ w.heap.size + 2 ≤ wr.heap.size ∧
      Below (w.heap.size + 1) (w.alloc (.cells #[.slice none 0 0, .int .i64 0, .slice none 0 0, .slice none 0 0] 26)) wr) (fun i _ => n - (intOf i).toNat)
  case atStart =>
    refine ⟨0, .slice none 0 0, .slice none 0 0, [], rfl, fun b hb => (by cases hb), Nat.zero_le _, rfl, ⟨by simp, by simp, by simp, by simp, by simp, by simp⟩, World.ownsRow_nil _ _ _ _, World.ownsRow_nil _ _ _ _, by simp, (Below.refl _ _).alloc (by simp) _⟩
  case round =>
    obtain ⟨k, vc, vs, bs, hbl, hob, hk, rfl, hp, oc, os, hsz, hb⟩ := hrel
    have HBL : Hid (bs.length = k) := hbl
    have HOB : Hid (∀ b ∈ bs, OB wr b ∧ w.heap.size + 2 ≤ b) := hob
    clear hbl hob
    have HP : Hid (PBox wr (w.heap.size + 1) vc n vs) := hp
    obtain ⟨c0, c1, c2, c3, f0, f2⟩ := hp
    by_cases hkn : k < n
    · have hki : (k : Int) < (n : Int) := by omega
      clear c1 c2 c3 f0 f2
      go_wp2_with (at_builtin; refine wpList_append_own _ rfl _ _ 22 rfl (w.heap.size + 2) 39 ii (.slice none 0 0) 1 24 Tryd.underlying22 hi hz0 hz1 hz2 rfl (by decide) _ _ _ rfl ((oc.alloc _).alloc _) ⟨wr.heap.size + 1, 0, none⟩ 1 1 [.slice (some ⟨wr.heap.size, 0, none⟩) 2 2] rfl rfl ?c1A ?c2A ?c3A ?c4A ?c5A ?_)
      case c1A =>
        intro j u hj
        match j, hj with
        | 0, hj => simp at hj; subst hj; simp [Addr.add]
      case c2A => intro u hu; simp at hu; subst hu; rfl
      case c3A => unfold maxLen; omega
      case c4A => omega
      case c5A => simp; omega
      intro v1 w2 oc1 hg1 _
      obtain ⟨g1, cap1, rfl⟩ := own_succ oc1
      have hne1 : some (w.heap.size + 1) ≠ vc.ownBlock := fun e => by have := (oc.lt _ e.symm).1; omega
      have hs1 : wr.heap.size + 2 ≤ w2.heap.size := by have := hg1.size; simpa using this
      have hp2 : PBox w2 (w.heap.size + 1) vc n vs := ((HP.out.alloc (by omega) _).alloc (by simp; omega) _).grown hg1 (by simp; omega) hne1
      have hob2 : ∀ b ∈ bs ++ [wr.heap.size], OB w2 b ∧ w.heap.size + 2 ≤ b := fun b hb => by
        rcases List.mem_append.1 hb with h1 | h1
        · obtain ⟨h2, h3⟩ := HOB.out b h1
          have h4 := h2.lt
          refine ⟨(hg1.block b (by simp; omega) (h2.ne oc)).trans ?_, h3⟩
          rw [Below.heap_alloc _ _ _ (by simp; omega), Below.heap_alloc _ _ _ h4]
          exact h2
        · rw [List.mem_singleton] at h1
          subst h1
          refine ⟨(hg1.block _ (by simp; omega) (fun e => by have := (oc.lt _ e.symm).2; omega)).trans ?_, hsz⟩
          rw [Below.heap_alloc _ _ _ (by simp)]
          exact World.alloc_heap_new wr _
      have os2 : w2.ownsRow (w.heap.size + 2) 41 3 vs k (spCells (ones k)) := ((os.alloc _).alloc _).kept hg1 (own_apart (by decide) os oc)
      have hb2 : Below (w.heap.size + 1) (w.alloc (.cells #[.slice none 0 0, .int .i64 0, .slice none 0 0, .slice none 0 0] 26)) w2 := ((hb.alloc (by omega) _).alloc (by simp; omega) _).grown hg1 (by simp; omega) (fun j hj => by have := (oc.lt j hj).1; omega)
      clear HP c0 os oc hg1 hb
      have HP2 : Hid (PBox w2 (w.heap.size + 1) vc n vs) := hp2
      obtain ⟨c0, c1, c2, c3, f0, f2⟩ := hp2
      clear c1 c3
      have hlt2 : w.heap.size + 1 < w2.heap.size := by omega
      have os3 := ownsRow_setCell_below os2 (a := ⟨w.heap.size + 1, 0, none⟩) (show w.heap.size + 1 < w.heap.size + 2 by omega) (.slice (some ⟨g1, 0, none⟩) (k + 1) cap1)
      have oc3 := ownsRow_setCell_below oc1 (a := ⟨w.heap.size + 1, 0, none⟩) (show w.heap.size + 1 < w.heap.size + 2 by omega) (.slice (some ⟨g1, 0, none⟩) (k + 1) cap1)
      have HO3 : Hid (∀ b ∈ bs ++ [wr.heap.size], OB (w2.setCell ⟨w.heap.size + 1, 0, none⟩ (.slice (some ⟨g1, 0, none⟩) (k + 1) cap1)) b ∧ w.heap.size + 2 ≤ b) := fun b hb => by
        obtain ⟨h2, h3⟩ := hob2 b hb
        exact ⟨(Below.heap_setCell _ _ _ _ (show b ≠ w.heap.size + 1 by omega)).trans h2, h3⟩
      clear os2 oc1 hob2
      go_wp2_with (at_builtin; refine wpList_append_own _ rfl _ _ 23 rfl (w.heap.size + 2) 41 jj (.agg #[.int .i64 0, .int .i64 0, .int .i64 0]) 3 24 Tryd.underlying23 hj hy0 hy1 hy2 rfl (by decide) _ _ _ rfl (os3.alloc _) ⟨w2.heap.size, 0, none⟩ 1 1 [.int .i64 k, .int .i64 (k + 1), .int .i64 k] rfl rfl ?c1A ?c2A ?c3A ?c4A ?c5A ?_)
      case c1A => 
        have := sp_new (w2.setCell ⟨w.heap.size + 1, 0, none⟩ (.slice (some ⟨g1, 0, none⟩) (k + 1) cap1)) (.int .i64 k) (.int .i64 (k + 1)) (.int .i64 k) 41
        simpa using this
      case c2A => intro u hu; simp at hu; rcases hu with rfl | rfl | rfl <;> rfl
      case c3A => unfold maxLen; omega
      case c4A => omega
      case c5A => simp; omega
      intro v2 w5 os5 hg2 _
      obtain ⟨g2, cap2, rfl⟩ := own_succ os5
      have hne2 : some (w.heap.size + 1) ≠ vs.ownBlock := fun e => by have := (os3.lt _ e.symm).1; omega
      have hs2 : w2.heap.size + 1 ≤ w5.heap.size := by have := hg2.size; simpa using this
      have hp5 : PBox w5 (w.heap.size + 1) (.slice (some ⟨g1, 0, none⟩) (k + 1) cap1) n vs := ((HP2.out.code _).alloc (by simp; omega) _).grown hg2 (by simp; omega) hne2
      have oc5 := (oc3.alloc _).kept hg2 (own_apart (by decide) oc3 os3)
      have hob5 : ∀ b ∈ bs ++ [wr.heap.size], OB w5 b ∧ w.heap.size + 2 ≤ b := fun b hb => by
        obtain ⟨h2, h3⟩ := HO3.out b hb
        have h4 := h2.lt
        refine ⟨(hg2.block b (by simp at h4 ⊢; omega) (h2.ne' os3)).trans ?_, h3⟩
        rw [Below.heap_alloc _ _ _ h4]
        exact h2
      have hb5 : Below (w.heap.size + 1) (w.alloc (.cells #[.slice none 0 0, .int .i64 0, .slice none 0 0, .slice none 0 0] 26)) w5 := ((hb2.setCell (p := ⟨w.heap.size + 1, 0, none⟩) (Nat.le_refl _) _).alloc (by simp; omega) _).grown hg2 (by simp; omega) (fun j hj => by have := (os3.lt j hj).1; omega)
      clear HP2 c0 c2 f0 f2 os3 oc3 hg2 hb2
      have HP5 : Hid (PBox w5 (w.heap.size + 1) (.slice (some ⟨g1, 0, none⟩) (k + 1) cap1) n vs) := hp5
      obtain ⟨c0, c1, c2, c3, f0, f2⟩ := hp5
      clear c0 c1 c3 f0
      have os6 := ownsRow_setCell_below os5 (a := ⟨w.heap.size + 1, 2, none⟩) (show w.heap.size + 1 < w.heap.size + 2 by omega) (.slice (some ⟨g2, 0, none⟩) (k + 1) cap2)
      have oc6 := ownsRow_setCell_below oc5 (a := ⟨w.heap.size + 1, 2, none⟩) (show w.heap.size + 1 < w.heap.size + 2 by omega) (.slice (some ⟨g2, 0, none⟩) (k + 1) cap2)
      have HO6 : Hid (∀ b ∈ bs ++ [wr.heap.size], OB (w5.setCell ⟨w.heap.size + 1, 2, none⟩ (.slice (some ⟨g2, 0, none⟩) (k + 1) cap2)) b ∧ w.heap.size + 2 ≤ b) := fun b hb => by
        obtain ⟨h2, h3⟩ := hob5 b hb
        exact ⟨(Below.heap_setCell _ _ _ _ (show b ≠ w.heap.size + 1 by omega)).trans h2, h3⟩
      clear os5 oc5 hob5
      have hlt5 : w.heap.size + 1 < w5.heap.size := by omega
      go_wp2
      go_roundw
      case rel => exact ⟨k + 1, _, _, bs ++ [wr.heap.size], by rw [List.length_append, HBL.out]; rfl, HO6.out, by omega, by go_num, HP5.out.spans _, by rw [List.map_append]; exact oc6, by rw [ones_succ, spCells_snoc]; exact os6, by simp; omega, hb5.setCell (p := ⟨w.heap.size + 1, 2, none⟩) (Nat.le_refl _) _⟩
      case measure => simp [intOf]; omega
    · obtain rfl : k = n := by omega
      have hbw : Below w.heap.size w wr := ((Below.refl _ w).alloc (Nat.le_refl _) _).trans (hb.mono (by omega))
      have r0 : wr.cell? ⟨w.heap.size, 0, none⟩ = some (.slice none 0 0) := (hb.cell (p := ⟨w.heap.size, 0, none⟩) (by simp)).trans (by simp)
      have r1 : wr.cell? ⟨w.heap.size, 1, none⟩ = some (.int .i64 0) := (hb.cell (p := ⟨w.heap.size, 1, none⟩) (by simp)).trans (by simp)
      have r2 : wr.cell? ⟨w.heap.size, 2, none⟩ = some (.slice none 0 0) := (hb.cell (p := ⟨w.heap.size, 2, none⟩) (by simp)).trans (by simp)
      have r3 : wr.cell? ⟨w.heap.size, 3, none⟩ = some (.slice none 0 0) := (hb.cell (p := ⟨w.heap.size, 3, none⟩) (by simp)).trans (by simp)
      have g0 : wr.frozen? ⟨w.heap.size, 0, none⟩ = false := (hb.frozen (p := ⟨w.heap.size, 0, none⟩) (by simp)).trans (by simp)
      have g1 : wr.frozen? ⟨w.heap.size, 1, none⟩ = false := (hb.frozen (p := ⟨w.heap.size, 1, none⟩) (by simp)).trans (by simp)
      have g2 : wr.frozen? ⟨w.heap.size, 2, none⟩ = false := (hb.frozen (p := ⟨w.heap.size, 2, none⟩) (by simp)).trans (by simp)
      have g3 : wr.frozen? ⟨w.heap.size, 3, none⟩ = false := (hb.frozen (p := ⟨w.heap.size, 3, none⟩) (by simp)).trans (by simp)
      have os7 := ownsRow_setCell_below (ownsRow_setCell_below (ownsRow_setCell_below (ownsRow_setCell_below os (a := ⟨w.heap.size, 0, none⟩) (show w.heap.size < w.heap.size + 2 by omega) vc) (a := ⟨w.heap.size, 1, none⟩) (show w.heap.size < w.heap.size + 2 by omega) (.int .i64 k)) (a := ⟨w.heap.size, 2, none⟩) (show w.heap.size < w.heap.size + 2 by omega) vs) (a := ⟨w.heap.size, 3, none⟩) (show w.heap.size < w.heap.size + 2 by omega) (.slice none 0 0)
      have oc7 := ownsRow_setCell_below (ownsRow_setCell_below (ownsRow_setCell_below (ownsRow_setCell_below oc (a := ⟨w.heap.size, 0, none⟩) (show w.heap.size < w.heap.size + 2 by omega) vc) (a := ⟨w.heap.size, 1, none⟩) (show w.heap.size < w.heap.size + 2 by omega) (.int .i64 k)) (a := ⟨w.heap.size, 2, none⟩) (show w.heap.size < w.heap.size + 2 by omega) vs) (a := ⟨w.heap.size, 3, none⟩) (show w.heap.size < w.heap.size + 2 by omega) (.slice none 0 0)
      have hsp := sps_of_own (l := ones k) (by rw [ones_len]; exact os7)
      have hob7 : ∀ b ∈ bs, OB ((((wr.setCell ⟨w.heap.size, 0, none⟩ vc).setCell ⟨w.heap.size, 1, none⟩ (.int .i64 k)).setCell ⟨w.heap.size, 2, none⟩ vs).setCell ⟨w.heap.size, 3, none⟩ (.slice none 0 0)) b := fun b hb => by
        obtain ⟨h2, h3⟩ := HOB.out b hb
        show (((((wr.setCell ⟨w.heap.size, 0, none⟩ vc).setCell ⟨w.heap.size, 1, none⟩ (.int .i64 k)).setCell ⟨w.heap.size, 2, none⟩ vs).setCell ⟨w.heap.size, 3, none⟩ (.slice none 0 0))).heap[b]? = _
        rw [Below.heap_setCell _ _ _ _ (show b ≠ w.heap.size by omega), Below.heap_setCell _ _ _ _ (show b ≠ w.heap.size by omega), Below.heap_setCell _ _ _ _ (show b ≠ w.heap.size by omega), Below.heap_setCell _ _ _ _ (show b ≠ w.heap.size by omega)]
        exact h2
      have HS : Hid (Pln ((((wr.setCell ⟨w.heap.size, 0, none⟩ vc).setCell ⟨w.heap.size, 1, none⟩ (.int .i64 k)).setCell ⟨w.heap.size, 2, none⟩ vs).setCell ⟨w.heap.size, 3, none⟩ (.slice none 0 0)) vc vs (.slice none 0 0) (cntP k)) := ⟨cds_own (base := w.heap.size + 2) (by rw [HBL.out]; exact oc7) hob7 HBL.out, hsp, Or.inl ⟨rfl, _, _, rfl⟩⟩
      obtain ⟨q1, q2, q3, rfl⟩ := own_form oc
      obtain ⟨q4, q5, q6, rfl⟩ := own_form os
      clear os7 oc7 hsp hob7 oc os HP
      go_wp2
      refine bodyPost_ret (v := .agg #[.slice q1 q2 q3, .int .i64 k, .slice q4 q5 q6, .slice none 0 0]) ?_ rfl ⟨_, _, rfl, HS.out, ?_⟩
      · simp [results, Tryd.results9, go_sem, r0, r1, r2, r3]
      · repeat' first | exact hbw | refine Below.setCell ?_ (by simp) _
end Go.Proofs.YtajfgmlockjmhaeDoor
namespace Go.Proofs.YtajfgmlockjmhaeDoor
open Go.RowKit

theorem purgeC_twice (R : Nat → Bool) : ∀ (i : Nat) (l : List (List O3)), purgeC R i (purgeC R i l) = purgeC R i l
  | _, [] => rfl
  | i, c :: l => by
    simp only [purgeC]
    rw [purgeC_twice R (i + 1) l]
    congr 1
    split <;> rfl
theorem prg_zero {p : PD} {r : Int} (h : prgE p r = 0) : plchk p = 0 ∧ 0 ≤ r ∧ r < (p.code.length : Int) := by
  unfold prgE at h
  split at h
  · rename_i h1
    split at h
    · omega
    · exact ⟨h1, by omega, by omega⟩
  · omega
theorem prgP_is {p : PD} {r : Int} (h : prgE p r = 0) : prgP p r = purgeP p (fun i => way p.wires i r.toNat) := by
  unfold prgP
  rw [if_pos h]
/-- PURGED TWICE IS PURGED ONCE. -/
theorem prg_twice {p : PD} {r : Int} (h : prgE p r = 0) : prgE (prgP p r) r = 0 ∧ prgP (prgP p r) r = prgP p r := by
  obtain ⟨h1, h2, h3⟩ := prg_zero h
  have e := prgP_is h
  have hz : prgE (prgP p r) r = 0 := by
    have hl : ((prgP p r).code.length : Int) = p.code.length := by
      rw [e]
      show ((purgeC _ 0 p.code).length : Int) = _
      rw [purgeC_len]
    unfold prgE
    rw [hl, e, if_pos (purge_right _ h1), if_neg (by omega)]
  refine ⟨hz, ?_⟩
  rw [prgP_is hz, e]
  show (⟨purgeC _ 0 (purgeC _ 0 p.code), p.ticks, p.spans, p.wires⟩ : PD) = ⟨purgeC _ 0 p.code, p.ticks, p.spans, p.wires⟩
  rw [show (fun i => way (purgeP p (fun i => way p.wires i r.toNat)).wires i r.toNat) = (fun i => way p.wires i r.toNat) from rfl, purgeC_twice]
theorem ahd_mem {l : List W4} {b : Nat} : ∀ {k : Nat} {x : Int}, x ∈ ahd l b k → ∃ j : Nat, j < k ∧ x = j ∧ way l j b = true
  | 0, x, h => by cases h
  | k + 1, x, h => by
    rw [ahd] at h
    split at h
    · rename_i hw
      rcases List.mem_append.1 h with h1 | h1
      · obtain ⟨j, h2, h3, h4⟩ := ahd_mem h1
        exact ⟨j, by omega, h3, h4⟩
      · rw [List.mem_singleton] at h1
        exact ⟨k, by omega, h1, hw⟩
    · obtain ⟨j, h2, h3, h4⟩ := ahd_mem h
      exact ⟨j, by omega, h3, h4⟩
theorem cnt2_e : prgE (cntP 2) 1 = 0 := by decide +kernel
theorem cnt2_code : (prgP (cntP 2) 1).code.map List.length = [1, 2] := by decide +kernel
theorem cnt2_ticks : (prgP (cntP 2) 1).ticks = 2 := by decide +kernel
theorem len_two {α : Type} {l : List (List α)} {a b : Nat} (h : l.map List.length = [a, b]) : ∃ x y, l = [x, y] ∧ x.length = a ∧ y.length = b := by
  match l, h with
  | [x, y], h => simp at h; exact ⟨x, y, rfl, h.1, h.2⟩
theorem prg_small {p : PD} {r : Int} (h : prgE p r = 0) : (prgP p r).code.length ≤ 1000 ∧ (prgP p r).spans.length ≤ 1000 ∧ (prgP p r).wires.length ≤ 1000 ∧ ∀ c ∈ (prgP p r).code, c.length ≤ 1000 := by
  have hq : plchk (prgP p r) = 0 := by
    rw [prgP_is h]
    exact purge_right _ (prg_zero h).1
  obtain ⟨h1, _, h3, h4, _, _, h7, _⟩ := plchk_zero hq
  refine ⟨by omega, by have := (fchk_zero h3).2.2.1; omega, by have := (wschk_ok h4).1; omega, fun c hc => ?_⟩
  have := (chk_zero (codesE_zero h7 c hc)).2.1
  omega
set_option maxRecDepth 100000 in
set_option maxHeartbeats 8000000 in
theorem ptwice_of {G : World → Prop} (hall : ∀ w w', G w → Below w.heap.size w w' → G w') (P : PrgPurge G) (p : PD) (vc vs vw : Value) (r : Int) (w : World) (hG : G w) (hP : Pln w vc vs vw p) :
    Calls Tryd.prog 5 #[plV vc p.ticks vs vw, .int .i64 r] w fun e w' => e = .returned (.bool true) ∧ Below w.heap.size w w' := by
  obtain ⟨ca, cc, rfl⟩ := hP.code.form
  obtain ⟨sa, sc, rfl⟩ := hP.spans.form
  obtain ⟨wa, wc', rfl⟩ := hP.wires.form
  have hx0 := Bx.first w (.slice ca p.code.length cc) p.ticks (.slice sa p.spans.length sc) (.slice wa p.wires.length wc')
  have HP : Hid (Pln w (.slice ca p.code.length cc) (.slice sa p.spans.length sc) (.slice wa p.wires.length wc') p) := hP
  have HG : Hid (∀ W, Below w.heap.size w W → G W) := fun W hb => hall w W hG hb
  have HC : Hid (∀ W, Calls Tryd.prog 9 #[.int .i64 2] W fun e w' => ∃ (a1 a2 : Option Addr) (l1 c1 l2 c2 : Nat), e = .returned (.agg #[.slice a1 l1 c1, .int .i64 2, .slice a2 l2 c2, .slice none 0 0]) ∧ Pln w' (.slice a1 l1 c1) (.slice a2 l2 c2) (.slice none 0 0) (cntP 2) ∧ Below W.heap.size W w') := fun W => by
    refine (counting_plan 2 W (by omega)).mono ?_
    rintro e w' ⟨vc, vs, rfl, h1, h2⟩
    obtain ⟨a1, c1, rfl⟩ := h1.code.form
    obtain ⟨a2, c2, rfl⟩ := h1.spans.form
    exact ⟨_, _, _, _, _, _, rfl, h1, h2⟩
  have HP2 : Hid (∀ W (a1 a2 : Option Addr) (l1 c1 l2 c2 : Nat), Below w.heap.size w W → Pln W (.slice a1 l1 c1) (.slice a2 l2 c2) (.slice none 0 0) (cntP 2) → Calls Tryd.prog 10 #[.agg #[.slice a1 l1 c1, .int .i64 2, .slice a2 l2 c2, .slice none 0 0], .int .i64 1] W fun e w' => ∃ (cb co ck : Nat) (ua ub : Option Addr) (ug uh : Nat) (ia ja : Option Addr) (il ic jl jc : Nat), e = .returned (.tuple #[.agg #[.slice (some ⟨cb, co, none⟩) 2 ck, .int .i64 2, .slice ia il ic, .slice ja jl jc], .nilIface]) ∧ (w'.cell? ⟨cb, co, none⟩ = some (.slice ua 1 ug) ∧ w'.cell? ⟨cb, co + 1, none⟩ = some (.slice ub 2 uh)) ∧ Below W.heap.size W w') := fun W a1 a2 l1 c1 l2 c2 hb hpl => by
    have h := P (cntP 2) _ _ _ 1 W (HG.out W hb) hpl
    rw [cnt2_e, cnt2_ticks] at h
    refine h.mono ?_
    rintro e w' ⟨ic, is, iw, rfl, h1, h2⟩
    obtain ⟨ia, il, rfl⟩ := h1.spans.form
    obtain ⟨ja, jl, rfl⟩ := h1.wires.form
    obtain ⟨x, y, hxy, hx, hy⟩ := len_two cnt2_code
    have hc := h1.code
    rw [hxy] at hc
    rcases hc with ⟨h3, _⟩ | ⟨cb, co, ck, rfl, _, _, hc⟩
    · cases h3
    · obtain ⟨u, hu, hou⟩ := hc 0 _ rfl
      obtain ⟨v, hv, hov⟩ := hc 1 _ rfl
      obtain ⟨ua, ug, rfl⟩ := hou.form
      obtain ⟨ub, uh, rfl⟩ := hov.form
      rw [hx] at hu
      rw [hy] at hv
      exact ⟨cb, co, ck, ua, ub, ug, uh, _, _, _, _, _, _, rfl, ⟨by simpa using hu, hv⟩, h2⟩
  have HPr : Hid (∀ W, Below w.heap.size w W → Calls Tryd.prog 10 #[.agg #[.slice ca p.code.length cc, .int .i64 p.ticks, .slice sa p.spans.length sc, .slice wa p.wires.length wc'], .int .i64 r] W fun e w' => ∃ (a1 a2 a3 : Option Addr) (c1 c2 c3 : Nat), e = .returned (.tuple #[.agg #[.slice a1 (prgP p r).code.length c1, .int .i64 (prgP p r).ticks, .slice a2 (prgP p r).spans.length c2, .slice a3 (prgP p r).wires.length c3], wErr (prgE p r)]) ∧ Pln w' (.slice a1 (prgP p r).code.length c1) (.slice a2 (prgP p r).spans.length c2) (.slice a3 (prgP p r).wires.length c3) (prgP p r) ∧ Below W.heap.size W w') := fun W hb => by
    refine (P p _ _ _ r W (HG.out W hb) (HP.out.all hb)).mono ?_
    rintro e w' ⟨ic, is, iw, rfl, h1, h2⟩
    obtain ⟨a1, c1, rfl⟩ := h1.code.form
    obtain ⟨a2, c2, rfl⟩ := h1.spans.form
    obtain ⟨a3, c3, rfl⟩ := h1.wires.form
    exact ⟨_, _, _, _, _, _, rfl, h1, h2⟩
  unfold plV
  clear hP hG
  go_enter Tryd.func5, Tryd.ntmps5
  go_upto_region 2 with (go_at_call 9; refine (HC.out _).mono ?_; rintro e w1 ⟨a1, a2, l1, c1, l2, c2, rfl, hpl1, b1⟩)
  have hx1 : Bx w w1 (.slice ca p.code.length cc) p.ticks (.slice sa p.spans.length sc) (.slice wa p.wires.length wc') := hx0.step b1
  have hA1 : Below w1.heap.size w1 (w1.alloc (.cells #[.slice a1 l1 c1, .int .i64 2, .slice a2 l2 c2, .slice none 0 0] 26)) := (Below.refl _ _).alloc (Nat.le_refl _) _
  have hx2 := hx1.step hA1
  have q3 := HP2.out _ a1 a2 l1 c1 l2 c2 hx2.below (hpl1.all hA1)
  clear hpl1 b1 hA1 hx1 hx0
  go_upto_region 3 with (go_at_call 10; refine q3.mono ?_; clear q3; rintro e w3 ⟨cb, co, ck, ua, ub, ug, uh, ia, ja, il, ic, jl, jc, rfl, ⟨t0, t1⟩, b3⟩)
  have hx3 := hx2.step b3
  have hA3 : Below w3.heap.size w3 (w3.alloc (.cells #[.slice (some ⟨cb, co, none⟩) 2 ck, .int .i64 2, .slice ia il ic, .slice ja jl jc] 26)) := (Below.refl _ _).alloc (Nat.le_refl _) _
  have z0 : (w3.alloc (.cells #[.slice (some ⟨cb, co, none⟩) 2 ck, .int .i64 2, .slice ia il ic, .slice ja jl jc] 26)).cell? ⟨w3.heap.size, 0, none⟩ = some (.slice (some ⟨cb, co, none⟩) 2 ck) := by simp
  replace t0 := (hA3.cell (p := ⟨cb, co, none⟩) (World.block_lt_of_cell? _ _ t0)).trans t0
  replace t1 := (hA3.cell (p := ⟨cb, co + 1, none⟩) (World.block_lt_of_cell? _ _ t1)).trans t1
  have hx4 := hx3.step hA3
  clear b3 hx2 hx3 hA3 HP2
  generalize w3.alloc (.cells #[.slice (some ⟨cb, co, none⟩) 2 ck, .int .i64 2, .slice ia il ic, .slice ja jl jc] 26) = W4 at *
  generalize w3.heap.size = b6 at *
  go_upto_region 5 with fail
  clear t0 t1 z0
  have k0 := hx4.c0
  have k1 := hx4.c1
  have k2 := hx4.c2
  have k3 := hx4.c3
  by_cases hz : prgE p r = 0
  case neg =>
    rw [wErr_not hz] at HPr
    generalize prgE p r = z at HPr hz
    go_wp2_with (go_at_call 10; refine (HPr.out W4 hx4.below).mono ?_; rintro e w5 ⟨d1, d2, d3, e1, e2, e3, rfl, hpl, b5⟩)
    go_ret
    exact ⟨rfl, (hx4.step (b5.alloc b5.size _)).below⟩
  obtain ⟨hpz, hr0, hr1⟩ := prg_zero hz
  obtain ⟨tz, tp⟩ := prg_twice hz
  obtain ⟨rn, rfl⟩ : ∃ q : Nat, r = q := ⟨r.toNat, by omega⟩
  have hcode : ∀ i : Nat, (prgP p rn).code[i]? = (p.code[i]?).map fun c => if way p.wires i rn = true then c else restC := fun i => by
    rw [prgP_is hz]
    show (purgeC _ 0 p.code)[i]? = _
    rw [purgeC_at, Nat.zero_add]
    simp
  have hqlen : (prgP p rn).code.length = p.code.length := by
    rw [prgP_is hz]
    show (purgeC _ 0 p.code).length = _
    rw [purgeC_len]
  have hqt : (prgP p rn).ticks = p.ticks := by rw [prgP_is hz]; rfl
  have hsm := prg_small hz
  rw [hz] at HPr
  have HP3 : Hid (∀ W (d1 d2 d3 : Option Addr) (e1 e2 e3 : Nat), Below w.heap.size w W → Pln W (.slice d1 (prgP p rn).code.length e1) (.slice d2 (prgP p rn).spans.length e2) (.slice d3 (prgP p rn).wires.length e3) (prgP p rn) → Calls Tryd.prog 10 #[.agg #[.slice d1 (prgP p rn).code.length e1, .int .i64 (prgP p rn).ticks, .slice d2 (prgP p rn).spans.length e2, .slice d3 (prgP p rn).wires.length e3], .int .i64 rn] W fun e w' => ∃ (f1 f2 f3 : Option Addr) (g1 g2 g3 : Nat), e = .returned (.tuple #[.agg #[.slice f1 (prgP p rn).code.length g1, .int .i64 (prgP p rn).ticks, .slice f2 (prgP p rn).spans.length g2, .slice f3 (prgP p rn).wires.length g3], .nilIface]) ∧ Pln w' (.slice f1 (prgP p rn).code.length g1) (.slice f2 (prgP p rn).spans.length g2) (.slice f3 (prgP p rn).wires.length g3) (prgP p rn) ∧ Below W.heap.size W w') := fun W d1 d2 d3 e1 e2 e3 hb hpl => by
    have h := P (prgP p rn) _ _ _ rn W (HG.out W hb) hpl
    rw [tz, tp] at h
    refine h.mono ?_
    rintro e w' ⟨ic, is, iw, rfl, h1, h2⟩
    obtain ⟨f1, g1, rfl⟩ := h1.code.form
    obtain ⟨f2, g2, rfl⟩ := h1.spans.form
    obtain ⟨f3, g3, rfl⟩ := h1.wires.form
    exact ⟨_, _, _, _, _, _, rfl, h1, h2⟩
  have HPr0 : Hid (∀ W, Below w.heap.size w W → Calls Tryd.prog 10 #[.agg #[.slice ca p.code.length cc, .int .i64 p.ticks, .slice sa p.spans.length sc, .slice wa p.wires.length wc'], .int .i64 rn] W fun e w' => ∃ (d1 d2 d3 : Option Addr) (e1 e2 e3 : Nat), e = .returned (.tuple #[.agg #[.slice d1 (prgP p rn).code.length e1, .int .i64 (prgP p rn).ticks, .slice d2 (prgP p rn).spans.length e2, .slice d3 (prgP p rn).wires.length e3], .nilIface]) ∧ Pln w' (.slice d1 (prgP p rn).code.length e1) (.slice d2 (prgP p rn).spans.length e2) (.slice d3 (prgP p rn).wires.length e3) (prgP p rn) ∧ Below W.heap.size W w') := HPr.out
  have hc5 : p.code.length ≤ 5 := (plchk_zero hpz).1
  have hrn5 : rn < 5 := by omega
  have HAh : Hid (∀ W, Below w.heap.size w W → Calls Tryd.prog 13 #[.slice wa p.wires.length wc', .int .i64 rn] W fun e w' => ∃ (ho : Option Addr) (hl hk : Nat), e = .returned (.tuple #[.slice ho hl hk, .nilIface]) ∧ Rd w' (.slice ho hl hk) (ahd p.wires rn 5) ∧ Below W.heap.size W w') := fun W hb => by
    refine (ahead_ok p.wires _ rn W (HP.out.wires.all hb) (plchk_zero hpz).2.2.2.1 hrn5).mono ?_
    rintro e w' ⟨u, rfl, h1, h2⟩
    have h3 := Rd.own h1
    obtain ⟨ho, hk, rfl⟩ := h3.form
    exact ⟨_, _, _, rfl, h3, h2⟩
  have HSm : Hid ((prgP p rn).code.length ≤ 1000 ∧ (prgP p rn).spans.length ≤ 1000 ∧ (prgP p rn).wires.length ≤ 1000 ∧ ∀ c ∈ (prgP p rn).code, c.length ≤ 1000) := hsm
  have HCd : Hid (∀ i : Nat, (prgP p rn).code[i]? = (p.code[i]?).map fun c => if way p.wires i rn = true then c else restC) := hcode
  have HLen : Hid ((prgP p rn).code.length = p.code.length) := hqlen
  clear hsm hcode tz tp HPr hqt hqlen
  generalize hQ : prgP p rn = q at *
  clear hQ hz
  go_upto_region 6 with (go_at_call 10; refine (HPr0.out W4 hx4.below).mono ?_; rintro e w5 ⟨d1, d2, d3, e1, e2, e3, rfl, hpl5, b5⟩)
  have hA5 : Below w5.heap.size w5 (w5.alloc (.cells #[.slice d1 q.code.length e1, .int .i64 q.ticks, .slice d2 q.spans.length e2, .slice d3 q.wires.length e3] 26)) := (Below.refl _ _).alloc (Nat.le_refl _) _
  have hbq : (w5.alloc (.cells #[.slice d1 q.code.length e1, .int .i64 q.ticks, .slice d2 q.spans.length e2, .slice d3 q.wires.length e3] 26)).heap[w5.heap.size]? = some (.cells #[.slice d1 q.code.length e1, .int .i64 q.ticks, .slice d2 q.spans.length e2, .slice d3 q.wires.length e3] 26 (0, 0)) := World.alloc_heap_new _ _
  have hx6 := (hx4.step b5).step hA5
  have hpl6 := hpl5.all hA5
  clear hpl5 b5 hA5 hx4 k0 k1 k2 k3 HPr0
  generalize w5.alloc (.cells #[.slice d1 q.code.length e1, .int .i64 q.ticks, .slice d2 q.spans.length e2, .slice d3 q.wires.length e3] 26) = W6 at *
  generalize w5.heap.size = qb at *
  have hqc : ∀ W, Below W6.heap.size W6 W → W.cell? ⟨qb, 0, none⟩ = some (.slice d1 q.code.length e1) ∧ W.cell? ⟨qb, 1, none⟩ = some (.int .i64 q.ticks) ∧ W.cell? ⟨qb, 2, none⟩ = some (.slice d2 q.spans.length e2) ∧ W.cell? ⟨qb, 3, none⟩ = some (.slice d3 q.wires.length e3) := fun W hb => by
    have e := (hb.block qb (Array.getElem?_eq_some_iff.1 hbq).1).trans hbq
    simp [World.cell?, e]
  obtain ⟨m0, m1, m2, m3⟩ := hqc W6 (Below.refl _ _)
  have q7 := HP3.out W6 d1 d2 d3 e1 e2 e3 hx6.below hpl6
  go_upto_region 9 with (go_at_call 10; refine q7.mono ?_; clear q7; rintro e w7 ⟨f1, f2, f3, g1, g2, g3, rfl, hpl7, b7⟩)
  have hA7 : Below w7.heap.size w7 (w7.alloc (.cells #[.slice f1 q.code.length g1, .int .i64 q.ticks, .slice f2 q.spans.length g2, .slice f3 q.wires.length g3] 26)) := (Below.refl _ _).alloc (Nat.le_refl _) _
  have hbx : (w7.alloc (.cells #[.slice f1 q.code.length g1, .int .i64 q.ticks, .slice f2 q.spans.length g2, .slice f3 q.wires.length g3] 26)).heap[w7.heap.size]? = some (.cells #[.slice f1 q.code.length g1, .int .i64 q.ticks, .slice f2 q.spans.length g2, .slice f3 q.wires.length g3] 26 (0, 0)) := World.alloc_heap_new _ _
  have b8 : Below W6.heap.size W6 (w7.alloc (.cells #[.slice f1 q.code.length g1, .int .i64 q.ticks, .slice f2 q.spans.length g2, .slice f3 q.wires.length g3] 26)) := b7.trans (hA7.mono b7.size)
  have hpl8 := hpl7.all hA7
  clear hpl7 hA7 b7 m0 m1 m2 m3 HP3
  generalize w7.alloc (.cells #[.slice f1 q.code.length g1, .int .i64 q.ticks, .slice f2 q.spans.length g2, .slice f3 q.wires.length g3] 26) = W8 at *
  generalize w7.heap.size = xb at *
  have hx8 := hx6.step b8
  have hxc : ∀ W, Below W8.heap.size W8 W → W.cell? ⟨xb, 0, none⟩ = some (.slice f1 q.code.length g1) ∧ W.cell? ⟨xb, 1, none⟩ = some (.int .i64 q.ticks) ∧ W.cell? ⟨xb, 2, none⟩ = some (.slice f2 q.spans.length g2) ∧ W.cell? ⟨xb, 3, none⟩ = some (.slice f3 q.wires.length g3) := fun W hb => by
    have e := (hb.block xb (Array.getElem?_eq_some_iff.1 hbx).1).trans hbx
    simp [World.cell?, e]
  have hpq8 := hpl6.all b8
  have k3 := hx8.c3
  have HSP : Hid (∀ W, Below W8.heap.size W8 W → Calls Tryd.prog 14 #[.agg #[.slice f1 q.code.length g1, .int .i64 q.ticks, .slice f2 q.spans.length g2, .slice f3 q.wires.length g3], .agg #[.slice d1 q.code.length e1, .int .i64 q.ticks, .slice d2 q.spans.length e2, .slice d3 q.wires.length e3]] W fun e w' => e = .returned (.bool true) ∧ Below W.heap.size W w') := fun W hb => sameplan_any q _ _ _ _ _ _ W (hpl8.all hb) (hpq8.all hb) HSm.out.1 HSm.out.2.1 HSm.out.2.2.1 HSm.out.2.2.2
  have hqc8 := fun W (hb : Below W8.heap.size W8 W) => hqc W (b8.trans (hb.mono b8.size))
  clear hqc hpl8 hpl6 hx6
  go_upto_region 12 with (first
    | (go_at_call 13; refine (HAh.out W8 hx8.below).mono ?_; rintro e w9 ⟨ho, hl, hk, rfl, hrd9, b9⟩; obtain ⟨m0, m1, m2, m3⟩ := hqc8 w9 b9; obtain ⟨n0, n1, n2, n3⟩ := hxc w9 b9)
    | (go_at_call 14; refine (HSP.out w9 b9).mono ?_; rintro e w10 ⟨rfl, b10⟩))
  have b10' := b9.trans (b10.mono b9.size)
  have hx10 := hx8.step b10'
  have hrd10 := hrd9.all b10
  have hqc10 := fun W (hb : Below w10.heap.size w10 W) => (hqc8 W (b10'.trans (hb.mono b10'.size))).1
  have hpq10 := hpq8.all b10'
  have HPQ : Hid (Pln w10 (.slice d1 q.code.length e1) (.slice d2 q.spans.length e2) (.slice d3 q.wires.length e3) q) := hpq10
  have HRd : Hid (Rd w10 (.slice ho hl hk) (ahd p.wires rn 5)) := hrd10
  clear hqc8 hxc hx8 b9 b10 b10' hrd9 hrd10 hpq8 hpq10 HSP HAh m0 m1 m2 m3 n0 n1 n2 n3 k3 b8 hbx hbq
  go_wp2
  go_loopw [14] (fun s14 wr => ∃ (i : Nat), i ≤ p.code.length ∧ s14 = .int .i64 i ∧ Below w10.heap.size w10 wr) (fun s _ => p.code.length - (intOf s).toNat)
  case atStart => exact ⟨0, Nat.zero_le _, rfl, Below.refl _ _⟩
  case round =>
  obtain ⟨i, hi, rfl, hb⟩ := hrel
  have hx := hx10.step hb
  have k0 := hx.c0
  have m0 := hqc10 _ hb
  by_cases hil : i < p.code.length
  case neg =>
    have hii : decide ((i : Int) < (p.code.length : Int)) = false := decide_eq_false (by omega)
    have hin : decide (i < p.code.length) = false := decide_eq_false hil
    go_wp2
    go_ret
    exact ⟨rfl, hx.below⟩
  have hii : (i : Int) < (p.code.length : Int) := by omega
  have HIL : Hid (i < p.code.length) := hil
  have hIn := rin_any _ _ (i : Int) wr (HRd.out.all hb) (by have := ahd_len p.wires rn 5; omega)
  obtain ⟨ah, hah⟩ : ∃ x, decide ((i : Int) ∈ ahd p.wires rn 5) = x := ⟨_, rfl⟩
  rw [hah] at hIn
  have HAH : Hid (ah = true → way p.wires i rn = true) := fun h => by
    rw [h] at hah
    obtain ⟨j, _, h2, h3⟩ := ahd_mem (of_decide_eq_true hah)
    obtain rfl : i = j := by omega
    exact h3
  have HIn : Hid (Calls Tryd.prog 15 #[.slice ho hl hk, .int .i64 i] wr fun e w' => e = .returned (.bool ah) ∧ Below wr.heap.size wr w') := hIn
  clear hIn hah
  go_upto_region 16 with (go_at_call 15; refine HIn.out.mono ?_; rintro e w11 ⟨rfl, b11⟩)
  have hb11 := hb.trans (b11.mono hb.size)
  have hx11 := hx10.step hb11
  clear k0 m0 HIn hx b11 hb
  have k0 := hx11.c0
  have m0 := hqc10 _ hb11
  obtain ⟨pb, po, pu, pn, pg, c, rfl, hpl, hpc, hpd, rfl, hpo⟩ := HP.out.code.at hil
  have hiq : i < q.code.length := by rw [HLen.out]; exact hil
  obtain ⟨qb', qo, qu, qn, qg, c', rfl, hql, hqc', hqd, rfl, hqo⟩ := HPQ.out.code.at hiq
  replace hpd := (hx11.below.cell (p := ⟨pb, _, none⟩) hpl).trans hpd
  replace hqd := (hb11.cell (p := ⟨qb', _, none⟩) hql).trans hqd
  have hlc : c'.length ≤ 1099511627776 := by
    have := HSm.out.2.2.2 c' (List.mem_of_getElem? hqc')
    omega
  have HCode : Hid (ah = true → ∀ W, Below w11.heap.size w11 W → Calls Tryd.prog 16 #[.slice qu c'.length qg, .slice pu c.length pg] W fun e w' => e = .returned (.bool true) ∧ Below W.heap.size W w') := fun hah W hb => by
    have h1 := HCd.out i
    rw [hqc', hpc, Option.map_some, if_pos (HAH.out hah)] at h1
    obtain rfl := Option.some.inj h1
    have h2 := same_any _ _ c' c' W (hqo.all (hb11.trans (hb.mono hb11.size))) (hpo.all (hx11.step hb).below) hlc
    rwa [decide_eq_true rfl] at h2
  clear hpc hqc' hpo hqo HCd HAH
  have hqii : (i : Int) < (q.code.length : Int) := by have := HLen.out; omega
  have hkb : w.heap.size < w11.heap.size := World.block_lt_of_cell? _ _ k0
  have hmb : qb < w11.heap.size := World.block_lt_of_cell? _ _ m0
  have hpb : pb < w11.heap.size := World.block_lt_of_cell? _ _ hpd
  have hqb : qb' < w11.heap.size := World.block_lt_of_cell? _ _ hqd
  have hcs : ∀ W, Below w11.heap.size w11 W → W.cell? ⟨w.heap.size, 0, none⟩ = some (.slice (some ⟨pb, po, none⟩) p.code.length cc) ∧ W.cell? ⟨qb, 0, none⟩ = some (.slice (some ⟨qb', qo, none⟩) q.code.length e1) ∧ W.cell? ⟨pb, po + i, none⟩ = some (.slice pu c.length pg) ∧ W.cell? ⟨qb', qo + i, none⟩ = some (.slice qu c'.length qg) := fun W hb => ⟨(hb.cell (p := ⟨w.heap.size, 0, none⟩) hkb).trans k0, (hb.cell (p := ⟨qb, 0, none⟩) hmb).trans m0, (hb.cell (p := ⟨pb, _, none⟩) hpb).trans hpd, (hb.cell (p := ⟨qb', _, none⟩) hqb).trans hqd⟩
  have bQ : Below w11.heap.size w11 w11.drew := (Below.refl _ _).drew
  have hqn : (q.code.length == p.code.length) = true := by rw [HLen.out]; simp
  have hqni : ((q.code.length : Int) == (p.code.length : Int)) = true := by rw [HLen.out]; simp
  have hqnn : ((q.code.length : Int) != (p.code.length : Int)) = false := by rw [HLen.out]; simp
  go_cut [112] from 89 to 111 (fun s112 wx => s112 = .bool false ∧ Below w11.heap.size w11 wx)
  case first =>
    cases ah with
    | false =>
      go_quiet (fail)
      go_wp2_with fail
      go_meet
      case rel => exact ⟨rfl, below_dN (Below.refl _ _) _⟩
    | true =>
      have HCo : Hid (∀ W, Below w11.heap.size w11 W → Calls Tryd.prog 16 #[.slice qu c'.length qg, .slice pu c.length pg] W fun e w' => e = .returned (.bool true) ∧ Below W.heap.size W w') := HCode.out rfl
      go_region_held3 (fun W => W.cell? ⟨w.heap.size, 0, none⟩ = some (.slice (some ⟨pb, po, none⟩) p.code.length cc) ∧ W.cell? ⟨qb, 0, none⟩ = some (.slice (some ⟨qb', qo, none⟩) q.code.length e1) ∧ W.cell? ⟨pb, po + i, none⟩ = some (.slice pu c.length pg) ∧ W.cell? ⟨qb', qo + i, none⟩ = some (.slice qu c'.length qg))
        (first | exact ⟨k0, m0, hpd, hqd⟩ | exact hcs _ bW | go_keep)
        (first
          | (go_at_call 16; refine (HCo.out _ bQ).mono ?_; rintro e w12 ⟨rfl, b12⟩; have bW : Below w11.heap.size w11 w12 := bQ.trans (b12.mono (Nat.le_refl _))))
      go_wp2_with fail
      go_meet
      case rel => exact ⟨rfl, bW⟩
  case rest =>
  obtain ⟨rfl, b13⟩ := hcut
  clear hcs k0 m0 hpd hqd
  go_wp2
  go_roundw
  case rel => exact ⟨i + 1, by have := HIL.out; omega, by go_num, hb11.trans (b13.mono hb11.size)⟩
  case measure => have := HIL.out; simp [intOf]; omega
end Go.Proofs.YtajfgmlockjmhaeDoor

/-
  CountPlan2, LgRef: joined into one text.
-/
import Derived.Test.YtajfgmlockjmhaiGreatDoorCountPlan
import Derived.Test.YtajfgmlockjmhaiGreatDoorJa13
import Derived.Test.YtajfgmlockjmhaiGreatDoorJa2
import Derived.RangeFuncNested
import Derived.Deep.CutRange
import Derived.Deep.RegionWith
import Derived.BigQuiet
namespace Go.Proofs.YtajfgmlockjmhaiGreatDoor
open Go.RowKit

/-- The code of a room that counts, in its block. -/
def OB (W : World) (b : Nat) : Prop := W.heap[b]? = some (.cells #[.int .i64 1, .int .i64 1, .int .i64 1, .int .i64 3, .int .i64 0, .int .i64 1] 28 (0, 0))
def opsV (b : Nat) : Value := .slice (some ⟨b, 0, none⟩) 2 2
theorem OB.lt {W : World} {b : Nat} (h : OB W b) : b < W.heap.size := (Array.getElem?_eq_some_iff.1 h).1
theorem OB.ne {W : World} {b base : Nat} {v : Value} {n : Nat} {xs : List Value} (h : OB W b) (ho : W.ownsRow base 29 1 v n xs) : some b ≠ v.ownBlock := fun e => by
  have h1 : W.heap[b]? = _ := h
  rcases ho.2 with ⟨h2, _⟩ | ⟨g, cap, cur, h2, _, h3, _⟩
  · rw [h2] at e
    cases e
  · rw [h2] at e
    simp only [Value.ownBlock, Option.some.injEq] at e
    subst e
    rw [h1] at h3
    injection h3 with h3
    injection h3 with _ h4
    exact absurd h4 (by decide)
theorem OB.ne' {W : World} {b base : Nat} {v : Value} {n : Nat} {xs : List Value} (h : OB W b) (ho : W.ownsRow base 82 3 v n xs) : some b ≠ v.ownBlock := fun e => by
  have h1 : W.heap[b]? = _ := h
  rcases ho.2 with ⟨h2, _⟩ | ⟨g, cap, cur, h2, _, h3, _⟩
  · rw [h2] at e
    cases e
  · rw [h2] at e
    simp only [Value.ownBlock, Option.some.injEq] at e
    subst e
    rw [h1] at h3
    injection h3 with h3
    injection h3 with _ h4
    exact absurd h4 (by decide)
theorem OB.ops {W : World} {b : Nat} (h : OB W b) : Ops W (opsV b) cntC := by
  have e : W.heap[b]? = _ := h
  refine Or.inr ⟨b, 0, 2, rfl, h.lt, fun i o ho => ?_⟩
  match i, ho with
  | 0, ho => simp [cntC] at ho; subst ho; simp [World.cell?, e]
  | 1, ho => simp [cntC] at ho; subst ho; simp [World.cell?, e]
  | i + 2, ho => simp [cntC] at ho
theorem cds_own {W : World} {base k : Nat} {v : Value} {bs : List Nat} (ho : W.ownsRow base 29 1 v bs.length (bs.map opsV)) (hb : ∀ b ∈ bs, OB W b) (hk : bs.length = k) : Cds W v (cntP k).code := by
  subst hk
  rcases ho.2 with ⟨h2, h3⟩ | ⟨g, cap, cur, h2, h3, h4, h5, h6, h7, h8⟩
  · refine Or.inl ⟨?_, none, 0, h2⟩
    rw [List.length_eq_zero_iff.1 h3]
    rfl
  · refine Or.inr ⟨g, 0, cap, by rw [h2]; simp [cntP], by simpa [cntP] using h5, (Array.getElem?_eq_some_iff.1 h4).1, fun i c hi => ?_⟩
    have hlt : i < bs.length := by have := (List.getElem?_eq_some_iff.1 hi).1; simpa [cntP] using this
    have hc : c = cntC := by simpa [cntP, hlt] using hi.symm
    subst hc
    have hcell := ho.cells (g := g) (by rw [h2]; rfl) i (opsV bs[i]) (by simp [hlt])
    rw [Addr.add_lit, Nat.zero_add] at hcell
    exact ⟨_, by rw [Nat.zero_add]; exact hcell, (hb _ (List.getElem_mem hlt)).ops⟩
set_option maxRecDepth 100000 in
set_option maxHeartbeats 4000000 in
theorem counting_plan (n : Nat) (w : World) (hn : n ≤ 5) :
    Calls Tryz.prog 14 #[.int .i64 n] w fun e w' => ∃ vc vs, e = .returned (plV vc n vs (.slice none 0 0)) ∧ Pln w' vc vs (.slice none 0 0) (cntP n) ∧ Below w.heap.size w w' := by
  obtain ⟨ii, hi, hz0, hz1, hz2⟩ := info_parts infoOps
  obtain ⟨jj, hj, hy0, hy1, hy2⟩ := info_parts infoSp
  go_enter Tryz.func14, Tryz.ntmps14
  go_wp2
  go_loopw [4] (fun i wr => ∃ (k : Nat) (vc vs : Value) (bs : List Nat), bs.length = k ∧ (∀ b ∈ bs, OB wr b ∧ w.heap.size + 2 ≤ b) ∧ k ≤ n ∧ i = .int .i64 k ∧ PBox wr (w.heap.size + 1) vc n vs ∧
      wr.ownsRow (w.heap.size + 2) 29 1 vc k (bs.map opsV) ∧ wr.ownsRow (w.heap.size + 2) 82 3 vs k (spCells (ones k)) ∧ w.heap.size + 2 ≤ wr.heap.size ∧
      Below (w.heap.size + 1) (w.alloc (.cells #[.slice none 0 0, .int .i64 0, .slice none 0 0, .slice none 0 0] 26)) wr) (fun i _ => n - (intOf i).toNat)
  case atStart =>
    refine ⟨0, .slice none 0 0, .slice none 0 0, [], rfl, fun b hb => (by cases hb), Nat.zero_le _, rfl, ⟨by simp, by simp, by simp, by simp, by simp, by simp⟩, World.ownsRow_nil _ _ _ _, World.ownsRow_nil _ _ _ _, by simp, (Below.refl _ _).alloc (by simp) _⟩
  case round =>
    obtain ⟨k, vc, vs, bs, hbl, hob, hk, rfl, hp, oc, os, hsz, hb⟩ := hrel
    have HBL : Hid (bs.length = k) := hbl
    have HOB : Hid (∀ b ∈ bs, OB wr b ∧ w.heap.size + 2 ≤ b) := hob
    clear hbl hob
    have HP : Hid (PBox wr (w.heap.size + 1) vc n vs) := hp
    obtain ⟨c0, c1, c2, c3, f0, f2⟩ := hp
    by_cases hkn : k < n
    · have hki : (k : Int) < (n : Int) := by omega
      clear c1 c2 c3 f0 f2
      go_wp2_with (at_builtin; refine wpList_append_own _ rfl _ _ 22 rfl (w.heap.size + 2) 29 ii (.slice none 0 0) 1 24 Tryz.underlying22 hi hz0 hz1 hz2 rfl (by decide) _ _ _ rfl ((oc.alloc _).alloc _) ⟨wr.heap.size + 1, 0, none⟩ 1 1 [.slice (some ⟨wr.heap.size, 0, none⟩) 2 2] rfl rfl ?c1A ?c2A ?c3A ?c4A ?c5A ?_)
      case c1A =>
        intro j u hj
        match j, hj with
        | 0, hj => simp at hj; subst hj; simp [Addr.add]
      case c2A => intro u hu; simp at hu; subst hu; rfl
      case c3A => unfold maxLen; omega
      case c4A => omega
      case c5A => simp; omega
      intro v1 w2 oc1 hg1 _
      obtain ⟨g1, cap1, rfl⟩ := own_succ oc1
      have hne1 : some (w.heap.size + 1) ≠ vc.ownBlock := fun e => by have := (oc.lt _ e.symm).1; omega
      have hs1 : wr.heap.size + 2 ≤ w2.heap.size := by have := hg1.size; simpa using this
      have hp2 : PBox w2 (w.heap.size + 1) vc n vs := ((HP.out.alloc (by omega) _).alloc (by simp; omega) _).grown hg1 (by simp; omega) hne1
      have hob2 : ∀ b ∈ bs ++ [wr.heap.size], OB w2 b ∧ w.heap.size + 2 ≤ b := fun b hb => by
        rcases List.mem_append.1 hb with h1 | h1
        · obtain ⟨h2, h3⟩ := HOB.out b h1
          have h4 := h2.lt
          refine ⟨(hg1.block b (by simp; omega) (h2.ne oc)).trans ?_, h3⟩
          rw [Below.heap_alloc _ _ _ (by simp; omega), Below.heap_alloc _ _ _ h4]
          exact h2
        · rw [List.mem_singleton] at h1
          subst h1
          refine ⟨(hg1.block _ (by simp; omega) (fun e => by have := (oc.lt _ e.symm).2; omega)).trans ?_, hsz⟩
          rw [Below.heap_alloc _ _ _ (by simp)]
          exact World.alloc_heap_new wr _
      have os2 : w2.ownsRow (w.heap.size + 2) 82 3 vs k (spCells (ones k)) := ((os.alloc _).alloc _).kept hg1 (own_apart (by decide) os oc)
      have hb2 : Below (w.heap.size + 1) (w.alloc (.cells #[.slice none 0 0, .int .i64 0, .slice none 0 0, .slice none 0 0] 26)) w2 := ((hb.alloc (by omega) _).alloc (by simp; omega) _).grown hg1 (by simp; omega) (fun j hj => by have := (oc.lt j hj).1; omega)
      clear HP c0 os oc hg1 hb
      have HP2 : Hid (PBox w2 (w.heap.size + 1) vc n vs) := hp2
      obtain ⟨c0, c1, c2, c3, f0, f2⟩ := hp2
      clear c1 c3
      have hlt2 : w.heap.size + 1 < w2.heap.size := by omega
      have os3 := ownsRow_setCell_below os2 (a := ⟨w.heap.size + 1, 0, none⟩) (show w.heap.size + 1 < w.heap.size + 2 by omega) (.slice (some ⟨g1, 0, none⟩) (k + 1) cap1)
      have oc3 := ownsRow_setCell_below oc1 (a := ⟨w.heap.size + 1, 0, none⟩) (show w.heap.size + 1 < w.heap.size + 2 by omega) (.slice (some ⟨g1, 0, none⟩) (k + 1) cap1)
      have HO3 : Hid (∀ b ∈ bs ++ [wr.heap.size], OB (w2.setCell ⟨w.heap.size + 1, 0, none⟩ (.slice (some ⟨g1, 0, none⟩) (k + 1) cap1)) b ∧ w.heap.size + 2 ≤ b) := fun b hb => by
        obtain ⟨h2, h3⟩ := hob2 b hb
        exact ⟨(Below.heap_setCell _ _ _ _ (show b ≠ w.heap.size + 1 by omega)).trans h2, h3⟩
      clear os2 oc1 hob2
      go_wp2_with (at_builtin; refine wpList_append_own _ rfl _ _ 23 rfl (w.heap.size + 2) 82 jj (.agg #[.int .i64 0, .int .i64 0, .int .i64 0]) 3 24 Tryz.underlying23 hj hy0 hy1 hy2 rfl (by decide) _ _ _ rfl (os3.alloc _) ⟨w2.heap.size, 0, none⟩ 1 1 [.int .i64 k, .int .i64 (k + 1), .int .i64 k] rfl rfl ?c1A ?c2A ?c3A ?c4A ?c5A ?_)
      case c1A => 
        have := sp_new (w2.setCell ⟨w.heap.size + 1, 0, none⟩ (.slice (some ⟨g1, 0, none⟩) (k + 1) cap1)) (.int .i64 k) (.int .i64 (k + 1)) (.int .i64 k) 82
        simpa using this
      case c2A => intro u hu; simp at hu; rcases hu with rfl | rfl | rfl <;> rfl
      case c3A => unfold maxLen; omega
      case c4A => omega
      case c5A => simp; omega
      intro v2 w5 os5 hg2 _
      obtain ⟨g2, cap2, rfl⟩ := own_succ os5
      have hne2 : some (w.heap.size + 1) ≠ vs.ownBlock := fun e => by have := (os3.lt _ e.symm).1; omega
      have hs2 : w2.heap.size + 1 ≤ w5.heap.size := by have := hg2.size; simpa using this
      have hp5 : PBox w5 (w.heap.size + 1) (.slice (some ⟨g1, 0, none⟩) (k + 1) cap1) n vs := ((HP2.out.code _).alloc (by simp; omega) _).grown hg2 (by simp; omega) hne2
      have oc5 := (oc3.alloc _).kept hg2 (own_apart (by decide) oc3 os3)
      have hob5 : ∀ b ∈ bs ++ [wr.heap.size], OB w5 b ∧ w.heap.size + 2 ≤ b := fun b hb => by
        obtain ⟨h2, h3⟩ := HO3.out b hb
        have h4 := h2.lt
        refine ⟨(hg2.block b (by simp at h4 ⊢; omega) (h2.ne' os3)).trans ?_, h3⟩
        rw [Below.heap_alloc _ _ _ h4]
        exact h2
      have hb5 : Below (w.heap.size + 1) (w.alloc (.cells #[.slice none 0 0, .int .i64 0, .slice none 0 0, .slice none 0 0] 26)) w5 := ((hb2.setCell (p := ⟨w.heap.size + 1, 0, none⟩) (Nat.le_refl _) _).alloc (by simp; omega) _).grown hg2 (by simp; omega) (fun j hj => by have := (os3.lt j hj).1; omega)
      clear HP2 c0 c2 f0 f2 os3 oc3 hg2 hb2
      have HP5 : Hid (PBox w5 (w.heap.size + 1) (.slice (some ⟨g1, 0, none⟩) (k + 1) cap1) n vs) := hp5
      obtain ⟨c0, c1, c2, c3, f0, f2⟩ := hp5
      clear c0 c1 c3 f0
      have os6 := ownsRow_setCell_below os5 (a := ⟨w.heap.size + 1, 2, none⟩) (show w.heap.size + 1 < w.heap.size + 2 by omega) (.slice (some ⟨g2, 0, none⟩) (k + 1) cap2)
      have oc6 := ownsRow_setCell_below oc5 (a := ⟨w.heap.size + 1, 2, none⟩) (show w.heap.size + 1 < w.heap.size + 2 by omega) (.slice (some ⟨g2, 0, none⟩) (k + 1) cap2)
      have HO6 : Hid (∀ b ∈ bs ++ [wr.heap.size], OB (w5.setCell ⟨w.heap.size + 1, 2, none⟩ (.slice (some ⟨g2, 0, none⟩) (k + 1) cap2)) b ∧ w.heap.size + 2 ≤ b) := fun b hb => by
        obtain ⟨h2, h3⟩ := hob5 b hb
        exact ⟨(Below.heap_setCell _ _ _ _ (show b ≠ w.heap.size + 1 by omega)).trans h2, h3⟩
      clear os5 oc5 hob5
      have hlt5 : w.heap.size + 1 < w5.heap.size := by omega
      go_wp2
      go_roundw
      case rel => exact ⟨k + 1, _, _, bs ++ [wr.heap.size], by rw [List.length_append, HBL.out]; rfl, HO6.out, by omega, by go_num, HP5.out.spans _, by rw [List.map_append]; exact oc6, by rw [ones_succ, spCells_snoc]; exact os6, by simp; omega, hb5.setCell (p := ⟨w.heap.size + 1, 2, none⟩) (Nat.le_refl _) _⟩
      case measure => simp [intOf]; omega
    · obtain rfl : k = n := by omega
      have hbw : Below w.heap.size w wr := ((Below.refl _ w).alloc (Nat.le_refl _) _).trans (hb.mono (by omega))
      have r0 : wr.cell? ⟨w.heap.size, 0, none⟩ = some (.slice none 0 0) := (hb.cell (p := ⟨w.heap.size, 0, none⟩) (by simp)).trans (by simp)
      have r1 : wr.cell? ⟨w.heap.size, 1, none⟩ = some (.int .i64 0) := (hb.cell (p := ⟨w.heap.size, 1, none⟩) (by simp)).trans (by simp)
      have r2 : wr.cell? ⟨w.heap.size, 2, none⟩ = some (.slice none 0 0) := (hb.cell (p := ⟨w.heap.size, 2, none⟩) (by simp)).trans (by simp)
      have r3 : wr.cell? ⟨w.heap.size, 3, none⟩ = some (.slice none 0 0) := (hb.cell (p := ⟨w.heap.size, 3, none⟩) (by simp)).trans (by simp)
      have g0 : wr.frozen? ⟨w.heap.size, 0, none⟩ = false := (hb.frozen (p := ⟨w.heap.size, 0, none⟩) (by simp)).trans (by simp)
      have g1 : wr.frozen? ⟨w.heap.size, 1, none⟩ = false := (hb.frozen (p := ⟨w.heap.size, 1, none⟩) (by simp)).trans (by simp)
      have g2 : wr.frozen? ⟨w.heap.size, 2, none⟩ = false := (hb.frozen (p := ⟨w.heap.size, 2, none⟩) (by simp)).trans (by simp)
      have g3 : wr.frozen? ⟨w.heap.size, 3, none⟩ = false := (hb.frozen (p := ⟨w.heap.size, 3, none⟩) (by simp)).trans (by simp)
      have os7 := ownsRow_setCell_below (ownsRow_setCell_below (ownsRow_setCell_below (ownsRow_setCell_below os (a := ⟨w.heap.size, 0, none⟩) (show w.heap.size < w.heap.size + 2 by omega) vc) (a := ⟨w.heap.size, 1, none⟩) (show w.heap.size < w.heap.size + 2 by omega) (.int .i64 k)) (a := ⟨w.heap.size, 2, none⟩) (show w.heap.size < w.heap.size + 2 by omega) vs) (a := ⟨w.heap.size, 3, none⟩) (show w.heap.size < w.heap.size + 2 by omega) (.slice none 0 0)
      have oc7 := ownsRow_setCell_below (ownsRow_setCell_below (ownsRow_setCell_below (ownsRow_setCell_below oc (a := ⟨w.heap.size, 0, none⟩) (show w.heap.size < w.heap.size + 2 by omega) vc) (a := ⟨w.heap.size, 1, none⟩) (show w.heap.size < w.heap.size + 2 by omega) (.int .i64 k)) (a := ⟨w.heap.size, 2, none⟩) (show w.heap.size < w.heap.size + 2 by omega) vs) (a := ⟨w.heap.size, 3, none⟩) (show w.heap.size < w.heap.size + 2 by omega) (.slice none 0 0)
      have hsp := sps_of_own (l := ones k) (by rw [ones_len]; exact os7)
      have hob7 : ∀ b ∈ bs, OB ((((wr.setCell ⟨w.heap.size, 0, none⟩ vc).setCell ⟨w.heap.size, 1, none⟩ (.int .i64 k)).setCell ⟨w.heap.size, 2, none⟩ vs).setCell ⟨w.heap.size, 3, none⟩ (.slice none 0 0)) b := fun b hb => by
        obtain ⟨h2, h3⟩ := HOB.out b hb
        show (((((wr.setCell ⟨w.heap.size, 0, none⟩ vc).setCell ⟨w.heap.size, 1, none⟩ (.int .i64 k)).setCell ⟨w.heap.size, 2, none⟩ vs).setCell ⟨w.heap.size, 3, none⟩ (.slice none 0 0))).heap[b]? = _
        rw [Below.heap_setCell _ _ _ _ (show b ≠ w.heap.size by omega), Below.heap_setCell _ _ _ _ (show b ≠ w.heap.size by omega), Below.heap_setCell _ _ _ _ (show b ≠ w.heap.size by omega), Below.heap_setCell _ _ _ _ (show b ≠ w.heap.size by omega)]
        exact h2
      have HS : Hid (Pln ((((wr.setCell ⟨w.heap.size, 0, none⟩ vc).setCell ⟨w.heap.size, 1, none⟩ (.int .i64 k)).setCell ⟨w.heap.size, 2, none⟩ vs).setCell ⟨w.heap.size, 3, none⟩ (.slice none 0 0)) vc vs (.slice none 0 0) (cntP k)) := ⟨cds_own (base := w.heap.size + 2) (by rw [HBL.out]; exact oc7) hob7 HBL.out, hsp, Or.inl ⟨rfl, _, _, rfl⟩⟩
      obtain ⟨q1, q2, q3, rfl⟩ := own_form oc
      obtain ⟨q4, q5, q6, rfl⟩ := own_form os
      clear os7 oc7 hsp hob7 oc os HP
      go_wp2
      refine bodyPost_ret (v := .agg #[.slice q1 q2 q3, .int .i64 k, .slice q4 q5 q6, .slice none 0 0]) ?_ rfl ⟨_, _, rfl, HS.out, ?_⟩
      · simp [results, Tryz.results14, go_sem, r0, r1, r2, r3]
      · repeat' first | exact hbw | refine Below.setCell ?_ (by simp) _
end Go.Proofs.YtajfgmlockjmhaiGreatDoor
namespace Go.Proofs.YtajfgmlockjmhaiGreatDoor
open Go.RowKit

theorem cnt2_ok : plchk (cntP 2) = 0 := by decide +kernel
/-- A step that is taken. -/
theorem put_went {d : LgD} {s : LStp} {sz : Nat} (hf : d.fail ≠ 0) : putR d s sz = ⟨d.recs ++ [(s, sz)], d.part, d.safe, d.stop, d.less⟩ := by
  unfold putR LgD.last
  rw [if_neg (by simpa using hf)]
theorem go_first {p : PD} (n : Int) (sz : Nat) : (goEnd p newL n = if n < 0 ∨ 100 < n then 1 else 0) ∧ goL p newL n sz = if n < 0 ∨ 100 < n then newL else ⟨[(.go n.toNat, sz)], 0, 0, false, -1⟩ := by
  have hl : newL.last = false := by decide
  have ht : (newL.k p).time = 0 := rfl
  by_cases h : n < 0 ∨ 100 < n
  · have he : goE p newL n = 1 := by
      unfold goE
      rw [if_neg (by decide), if_pos h]
    refine ⟨?_, ?_⟩
    · unfold goEnd
      rw [he, if_neg (by decide), if_pos h]
    · unfold goL
      rw [he, if_neg (by decide), if_pos h]
  · have he : goE p newL n = 0 := by
      unfold goE
      rw [if_neg (by decide), if_neg h, ht, if_neg (by omega)]
    refine ⟨?_, ?_⟩
    · unfold goEnd
      rw [he, if_pos rfl, hl, if_neg (by decide), if_neg h]
    · unfold goL
      rw [he, if_pos rfl, if_neg h, put_went (by decide)]
      rfl
theorem poke_next {p : PD} (hp : plchk p = 0) (h0 : 0 < p.code.length) {d : LgD} (hs : d.stop = false) (hf : d.fail = -1) (c : Int) (sz : Nat) : (lpEnd p d 0 c 5 = if c < 0 ∨ 5 < c then 1 else 0) ∧ lpL p d 0 c 5 sz = if c < 0 ∨ 5 < c then d else ⟨d.recs ++ [(.poke 0 c 5, sz)], d.part, d.safe, d.stop, d.less⟩ := by
  have hl : d.last = false := by
    unfold LgD.last
    rw [hf]
    rfl
  have hrl : (d.k p).rooms.length = p.code.length := (redo_ok hp _).rl
  have hpb : pokeB (d.k p) 0 c 5 = decide (c < 0 ∨ 5 < c) := by
    unfold pokeB
    rw [hrl]
    by_cases h : c < 0 ∨ 5 < c
    · rw [decide_eq_true h]
      rcases h with h | h
      · simp [h]
      · simp [h]
    · rw [decide_eq_false h]
      rw [Bool.or_eq_false_iff, Bool.or_eq_false_iff, Bool.or_eq_false_iff, Bool.or_eq_false_iff, Bool.or_eq_false_iff]
      exact ⟨⟨⟨⟨⟨decide_eq_false (by omega), decide_eq_false (by omega)⟩, decide_eq_false (by omega)⟩, decide_eq_false (by omega)⟩, decide_eq_false (by omega)⟩, decide_eq_false (by omega)⟩
  by_cases h : c < 0 ∨ 5 < c
  · have he : lpE p d 0 c 5 = 1 := by
      unfold lpE pokeN
      rw [hs, if_neg (by decide), hpb, decide_eq_true h, if_pos rfl]
    refine ⟨?_, ?_⟩
    · unfold lpEnd
      rw [he, if_neg (by decide), if_pos h]
    · unfold lpL
      rw [he, if_neg (by decide), if_pos h]
  · have he : lpE p d 0 c 5 = 0 := by
      unfold lpE pokeN
      rw [hs, if_neg (by decide), hpb, decide_eq_false h, if_neg (by decide)]
    refine ⟨?_, ?_⟩
    · unfold lpEnd
      rw [he, if_pos rfl, hl, if_neg (by decide), if_neg h]
    · unfold lpL
      rw [he, if_pos rfl, if_neg h, put_went (by rw [hf]; decide)]
set_option maxRecDepth 100000 in
set_option maxHeartbeats 8000000 in
theorem lref_of {G : World → Prop} (C : LogC G) (CP : LogPoke C) (CT : LogRd C 23 (fun d p => .int .i64 (d.k p).time)) (CB : LogRd C 25 (fun d _ => .int .i64 (d.bytes : Nat))) (hE : ∀ (e : Int) (W : World), G W → Calls Tryz.prog 15 #[wErr e, .int .i64 e] W fun r w' => r = .returned (.bool true) ∧ Below W.heap.size W w')
    (n c : Int) (w : World) (hG : G w) :
    Calls Tryz.prog 6 #[.int .i64 n, .int .i64 c] w fun e w' => e = .returned (.bool true) ∧ Below w.heap.size w w' := by
  have hall : ∀ W, Below w.heap.size w W → G W := fun W hb => C.all w W hG hb
  have HC : Hid (∀ W, Calls Tryz.prog 14 #[.int .i64 2] W fun e w' => ∃ vc vs, e = .returned (.agg #[vc, .int .i64 2, vs, .slice none 0 0]) ∧ Pln w' vc vs (.slice none 0 0) (cntP 2) ∧ Below W.heap.size W w') := fun W => counting_plan 2 W (by omega)
  have HN : Hid (∀ vc vs W, Below w.heap.size w W → Pln W vc vs (.slice none 0 0) (cntP 2) → Calls Tryz.prog 17 #[.agg #[vc, .int .i64 2, vs, .slice none 0 0]] W fun e w' => ∃ cb F, e = .returned (.tuple #[.pointer (some ⟨cb, 0, none⟩), .nilIface]) ∧ C.K W w' (cntP 2) newL cb F) := fun vc vs W hb hP => C.new (cntP 2) vc vs (.slice none 0 0) W (hall W hb) hP cnt2_ok
  obtain ⟨ea, hea⟩ : ∃ e, (if n < 0 ∨ 100 < n then (1 : Int) else 0) = e := ⟨_, rfl⟩
  obtain ⟨eb, heb⟩ : ∃ e, (if c < 0 ∨ 5 < c then (1 : Int) else 0) = e := ⟨_, rfl⟩
  have HGo : Hid (∀ W0 W cb F, Below w.heap.size w W0 → C.K W0 W (cntP 2) newL cb F → Calls Tryz.prog 19 #[.pointer (some ⟨cb, 0, none⟩), .int .i64 n] W fun e w' => e = .returned (wErr ea) ∧ ∃ d F', C.K W0 w' (cntP 2) d cb F' ∧ LOk (cntP 2) d ∧ d.stop = false ∧ d.fail = -1 ∧ d.recs.length < 40 ∧ (ea = 0 → (d.k (cntP 2)).time = n ∧ 2 ≤ d.bytes) ∧ (ea = 1 → d = newL)) := fun W0 W cb F hb hK => by
    refine (C.go n (hall W0 hb) hK cnt2_ok newL_ok).mono ?_
    rintro e w' ⟨rfl, sz, F', h2, h3, hK', _, _⟩
    obtain ⟨q1, q2⟩ := go_first (p := cntP 2) n sz
    rw [q1, hea]
    refine ⟨rfl, goL (cntP 2) newL n sz, F', hK', goL_ok newL_ok h2 h3 (by decide), ?_, ?_, ?_, fun h => ?_, fun h => ?_⟩
    · rw [q2]
      split <;> rfl
    · rw [q2]
      split <;> rfl
    · rw [q2]
      split
      · show (0 : Nat) < 40
        decide
      · show (1 : Nat) < 40
        decide
    · have hno : ¬ (n < 0 ∨ 100 < n) := fun hh => by
        rw [if_pos hh] at hea
        omega
      rw [q2, if_neg hno]
      refine ⟨?_, ?_⟩
      · show (ticksK (cntP 2) n.toNat (newK (cntP 2))).time = n
        rw [ticksK_time]
        show (0 : Int) + (n.toNat : Int) = n
        omega
      · show 2 ≤ sizeR [(LStp.go n.toNat, sz)] + 0
        simp [sizeR]
        omega
    · have hyes : n < 0 ∨ 100 < n := Classical.byContradiction fun hh => by
        rw [if_neg hh] at hea
        omega
      rw [q2, if_pos hyes]
  have HPo : Hid (∀ W0 W cb F d, Below w.heap.size w W0 → C.K W0 W (cntP 2) d cb F → LOk (cntP 2) d → d.stop = false → d.fail = -1 → d.recs.length < 40 → Calls Tryz.prog 21 #[.pointer (some ⟨cb, 0, none⟩), .int .i64 0, .int .i64 c, .int .i64 5] W fun e w' => e = .returned (wErr eb) ∧ ∃ d' F', C.K W0 w' (cntP 2) d' cb F' ∧ LOk (cntP 2) d' ∧ (d'.k (cntP 2)).time = (d.k (cntP 2)).time ∧ (eb = 0 → d.bytes + 2 ≤ d'.bytes) ∧ (eb = 1 → d'.bytes = d.bytes)) := fun W0 W cb F d hb hK hok hs hf hln => by
    refine (CP 0 c 5 (hall W0 hb) hK cnt2_ok hok).mono ?_
    rintro e w' ⟨rfl, sz, F', h2, h3, hK', _, _⟩
    obtain ⟨q1, q2⟩ := poke_next (p := cntP 2) cnt2_ok (by decide) hs hf c sz
    rw [q1, heb]
    refine ⟨rfl, lpL (cntP 2) d 0 c 5 sz, F', hK', lpL_ok hok h2 h3 hln, ?_, fun h => ?_, fun h => ?_⟩
    · rw [q2]
      split
      · rfl
      · show (redoK (cntP 2) ((d.recs ++ [(LStp.poke 0 c 5, sz)]).map (·.1))).time = _
        rw [List.map_append, List.map_singleton, redoK_append]
        exact pokeK_tm _ _ _ _
    · have hno : ¬ (c < 0 ∨ 5 < c) := fun hh => by
        rw [if_pos hh] at heb
        omega
      rw [q2, if_neg hno]
      show sizeR d.recs + d.part + 2 ≤ sizeR (d.recs ++ [(LStp.poke 0 c 5, sz)]) + d.part
      rw [sizeR_append]
      simp [sizeR]
      omega
    · have hyes : c < 0 ∨ 5 < c := Classical.byContradiction fun hh => by
        rw [if_neg hh] at heb
        omega
      rw [q2, if_pos hyes]
  have HTm : Hid (∀ W0 W cb F d, C.K W0 W (cntP 2) d cb F → LOk (cntP 2) d → Calls Tryz.prog 23 #[.pointer (some ⟨cb, 0, none⟩)] W fun e w' => e = .returned (.int .i64 (d.k (cntP 2)).time) ∧ Below W.heap.size W w') := fun W0 W cb F d hK hok => CT hK hok cnt2_ok
  have HBy : Hid (∀ W0 W cb F d, C.K W0 W (cntP 2) d cb F → LOk (cntP 2) d → Calls Tryz.prog 25 #[.pointer (some ⟨cb, 0, none⟩)] W fun e w' => e = .returned (.int .i64 (d.bytes : Nat)) ∧ Below W.heap.size W w') := fun W0 W cb F d hK hok => CB hK hok cnt2_ok
  have HE1 : Hid (∀ W, Below w.heap.size w W → Calls Tryz.prog 15 #[.iface 93 (.int .i64 1), .int .i64 1] W fun r w' => r = .returned (.bool true) ∧ Below W.heap.size W w') := fun W hb => hE 1 W (hall W hb)
  clear hE hG
  go_enter Tryz.func6, Tryz.ntmps6
  go_upto_region 6 with (first
    | (go_at_call 14; refine (HC.out _).mono ?_; rintro e w1 ⟨uc, us, rfl, hPc, b1⟩; have q2 := HN.out uc us w1 b1 hPc)
    | (go_at_call 17; refine q2.mono ?_; rintro e w2 ⟨cb, F, rfl, hK⟩; clear q2; have q3 := HGo.out w1 w2 cb F b1 hK)
    | (go_at_call 19; refine q3.mono ?_; rintro e w3 ⟨rfl, d, F3, hK3, hok3, hs3, hf3, hl3, hy3, hn3⟩; clear q3; have q4 := HPo.out w1 w3 cb F3 d b1 hK3 hok3 hs3 hf3 hl3)
    | (go_at_call 21; refine q4.mono ?_; rintro e w4 ⟨rfl, d4, F4, hK4, hok4, ht4, hy4, hn4⟩; clear q4))
  have hb4 : Below w.heap.size w w4 := b1.trans ((C.since hK4).mono b1.size)
  have HT4 : Hid (Calls Tryz.prog 23 #[.pointer (some ⟨cb, 0, none⟩)] w4 fun e w' => e = .returned (.int .i64 (d.k (cntP 2)).time) ∧ Below w4.heap.size w4 w') := by
    have := HTm.out w1 w4 cb F4 d4 hK4 hok4
    rw [ht4] at this
    exact this
  have HB4 : Hid (∀ W, Below w4.heap.size w4 W → Calls Tryz.prog 25 #[.pointer (some ⟨cb, 0, none⟩)] W fun e w' => e = .returned (.int .i64 (d4.bytes : Nat)) ∧ Below W.heap.size W w') := fun W hb => HBy.out w1 W cb F4 d4 (C.frame hK4 (KTouch.of (M := []) hb) (by simp)) hok4
  have hq1 := HE1.out w4 hb4
  have htd : ea = 0 → (d.k (cntP 2)).time = n := fun h => (hy3 h).1
  have hz0 : ea = 1 → eb = 1 → d4.bytes = 0 := fun h1 h2 => by
    rw [hn4 h2, hn3 h1]
    rfl
  have hz1 : ¬ (ea = 1 ∧ eb = 1) → 2 ≤ d4.bytes := fun hh => by
    have ha : ea = 0 ∨ ea = 1 := by
      rw [← hea]
      split
      · exact Or.inr rfl
      · exact Or.inl rfl
    have hb : eb = 0 ∨ eb = 1 := by
      rw [← heb]
      split
      · exact Or.inr rfl
      · exact Or.inl rfl
    rcases hb with hb | hb
    · have := hy4 hb
      omega
    · rcases ha with ha | ha
      · have h1 := (hy3 ha).2
        rw [hn4 hb]
        exact h1
      · exact absurd ⟨ha, hb⟩ hh
  clear HTm HBy HPo HGo HN HC HE1 hK hK3 hK4 hok3 hok4 hy3 hn3 hy4 hn4 ht4 hs3 hf3 hPc
  generalize (d.k (cntP 2)).time = tm at HT4 htd
  generalize d4.bytes = X at HB4 hz0 hz1
  have hn3 : n < 0 ∨ 100 < n ∨ ¬ (n < 0 ∨ 100 < n) := by omega
  have hc3 : c < 0 ∨ 5 < c ∨ ¬ (c < 0 ∨ 5 < c) := by omega
  rcases hn3 with hn1 | hn1 | hn1
  · rw [if_pos (Or.inl hn1)] at hea
    subst hea
    have hn' : decide (n < 0) = true := decide_eq_true hn1
    rcases hc3 with hc1 | hc1 | hc1
    · rw [if_pos (Or.inl hc1)] at heb
      subst heb
      have hc' : decide (0 ≤ c) = false := decide_eq_false (by omega)
      obtain rfl := hz0 rfl rfl
      clear hz0 hz1 htd hn1 hc1
      clear HT4
      rw [show wErr 1 = .iface 93 (.int .i64 1) from rfl]
      go_wp2_with (first
        | (go_at_call 15; refine hq1.mono ?_; rintro e w5 ⟨rfl, b5⟩; clear hq1; have q6 := HB4.out w5 b5)
        | (go_at_call 25; refine q6.mono ?_; rintro e w6 ⟨rfl, b6⟩; clear q6))
      go_ret
      exact ⟨rfl, (hb4.trans (b5.mono hb4.size)).trans (b6.mono (hb4.trans (b5.mono hb4.size)).size)⟩
    · rw [if_pos (Or.inr hc1)] at heb
      subst heb
      have hc' : decide (0 ≤ c) = true := decide_eq_true (by omega)
      have hc'' : decide (c < 6) = false := decide_eq_false (by omega)
      obtain rfl := hz0 rfl rfl
      clear hz0 hz1 htd hn1 hc1
      clear HT4
      rw [show wErr 1 = .iface 93 (.int .i64 1) from rfl]
      go_wp2_with (first
        | (go_at_call 15; refine hq1.mono ?_; rintro e w5 ⟨rfl, b5⟩; clear hq1; have q6 := HB4.out w5 b5)
        | (go_at_call 25; refine q6.mono ?_; rintro e w6 ⟨rfl, b6⟩; clear q6))
      go_ret
      exact ⟨rfl, (hb4.trans (b5.mono hb4.size)).trans (b6.mono (hb4.trans (b5.mono hb4.size)).size)⟩
    · rw [if_neg hc1] at heb
      subst heb
      have hc' : decide (0 ≤ c) = true := decide_eq_true (by omega)
      have hc'' : decide (c < 6) = true := decide_eq_true (by omega)
      have hX := hz1 (by omega)
      have hX1 : ((X : Int) == 0) = false := beq_eq_false_iff_ne.2 (by omega)
      have hX2 : (X == 0) = false := beq_eq_false_iff_ne.2 (by omega)
      clear hz0 hz1 htd hn1 hc1
      clear HT4
      rw [show wErr 1 = .iface 93 (.int .i64 1) from rfl]
      rw [show wErr 0 = .nilIface from rfl]
      go_wp2_with (first
        | (go_at_call 15; refine hq1.mono ?_; rintro e w5 ⟨rfl, b5⟩; clear hq1; have q6 := HB4.out w5 b5)
        | (go_at_call 25; refine q6.mono ?_; rintro e w6 ⟨rfl, b6⟩; clear q6))
      go_ret
      exact ⟨rfl, (hb4.trans (b5.mono hb4.size)).trans (b6.mono (hb4.trans (b5.mono hb4.size)).size)⟩
  · rw [if_pos (Or.inr hn1)] at hea
    subst hea
    have hn' : decide (n < 0) = false := decide_eq_false (by omega)
    have hn'' : decide (100 < n) = true := decide_eq_true hn1
    rcases hc3 with hc1 | hc1 | hc1
    · rw [if_pos (Or.inl hc1)] at heb
      subst heb
      have hc' : decide (0 ≤ c) = false := decide_eq_false (by omega)
      obtain rfl := hz0 rfl rfl
      clear hz0 hz1 htd hn1 hc1
      clear HT4
      rw [show wErr 1 = .iface 93 (.int .i64 1) from rfl]
      go_wp2_with (first
        | (go_at_call 15; refine hq1.mono ?_; rintro e w5 ⟨rfl, b5⟩; clear hq1; have q6 := HB4.out w5 b5)
        | (go_at_call 25; refine q6.mono ?_; rintro e w6 ⟨rfl, b6⟩; clear q6))
      go_ret
      exact ⟨rfl, (hb4.trans (b5.mono hb4.size)).trans (b6.mono (hb4.trans (b5.mono hb4.size)).size)⟩
    · rw [if_pos (Or.inr hc1)] at heb
      subst heb
      have hc' : decide (0 ≤ c) = true := decide_eq_true (by omega)
      have hc'' : decide (c < 6) = false := decide_eq_false (by omega)
      obtain rfl := hz0 rfl rfl
      clear hz0 hz1 htd hn1 hc1
      clear HT4
      rw [show wErr 1 = .iface 93 (.int .i64 1) from rfl]
      go_wp2_with (first
        | (go_at_call 15; refine hq1.mono ?_; rintro e w5 ⟨rfl, b5⟩; clear hq1; have q6 := HB4.out w5 b5)
        | (go_at_call 25; refine q6.mono ?_; rintro e w6 ⟨rfl, b6⟩; clear q6))
      go_ret
      exact ⟨rfl, (hb4.trans (b5.mono hb4.size)).trans (b6.mono (hb4.trans (b5.mono hb4.size)).size)⟩
    · rw [if_neg hc1] at heb
      subst heb
      have hc' : decide (0 ≤ c) = true := decide_eq_true (by omega)
      have hc'' : decide (c < 6) = true := decide_eq_true (by omega)
      have hX := hz1 (by omega)
      have hX1 : ((X : Int) == 0) = false := beq_eq_false_iff_ne.2 (by omega)
      have hX2 : (X == 0) = false := beq_eq_false_iff_ne.2 (by omega)
      clear hz0 hz1 htd hn1 hc1
      clear HT4
      rw [show wErr 1 = .iface 93 (.int .i64 1) from rfl]
      rw [show wErr 0 = .nilIface from rfl]
      go_wp2_with (first
        | (go_at_call 15; refine hq1.mono ?_; rintro e w5 ⟨rfl, b5⟩; clear hq1; have q6 := HB4.out w5 b5)
        | (go_at_call 25; refine q6.mono ?_; rintro e w6 ⟨rfl, b6⟩; clear q6))
      go_ret
      exact ⟨rfl, (hb4.trans (b5.mono hb4.size)).trans (b6.mono (hb4.trans (b5.mono hb4.size)).size)⟩
  · rw [if_neg hn1] at hea
    subst hea
    have hn' : decide (n < 0) = false := decide_eq_false (by omega)
    have hn'' : decide (100 < n) = false := decide_eq_false (by omega)
    have hte := htd rfl
    subst hte
    have hne : (tm != tm) = false := by simp
    rcases hc3 with hc1 | hc1 | hc1
    · rw [if_pos (Or.inl hc1)] at heb
      subst heb
      have hc' : decide (0 ≤ c) = false := decide_eq_false (by omega)
      have hX := hz1 (by omega)
      have hX1 : ((X : Int) == 0) = false := beq_eq_false_iff_ne.2 (by omega)
      have hX2 : (X == 0) = false := beq_eq_false_iff_ne.2 (by omega)
      clear hz0 hz1 htd hn1 hc1
      clear hq1
      rw [show wErr 1 = .iface 93 (.int .i64 1) from rfl]
      rw [show wErr 0 = .nilIface from rfl]
      go_wp2_with (first
        | (go_at_call 23; refine HT4.out.mono ?_; rintro e w5 ⟨rfl, b5⟩; have q6 := HB4.out w5 b5)
        | (go_at_call 25; refine q6.mono ?_; rintro e w6 ⟨rfl, b6⟩; clear q6))
      go_ret
      exact ⟨rfl, (hb4.trans (b5.mono hb4.size)).trans (b6.mono (hb4.trans (b5.mono hb4.size)).size)⟩
    · rw [if_pos (Or.inr hc1)] at heb
      subst heb
      have hc' : decide (0 ≤ c) = true := decide_eq_true (by omega)
      have hc'' : decide (c < 6) = false := decide_eq_false (by omega)
      have hX := hz1 (by omega)
      have hX1 : ((X : Int) == 0) = false := beq_eq_false_iff_ne.2 (by omega)
      have hX2 : (X == 0) = false := beq_eq_false_iff_ne.2 (by omega)
      clear hz0 hz1 htd hn1 hc1
      clear hq1
      rw [show wErr 1 = .iface 93 (.int .i64 1) from rfl]
      rw [show wErr 0 = .nilIface from rfl]
      go_wp2_with (first
        | (go_at_call 23; refine HT4.out.mono ?_; rintro e w5 ⟨rfl, b5⟩; have q6 := HB4.out w5 b5)
        | (go_at_call 25; refine q6.mono ?_; rintro e w6 ⟨rfl, b6⟩; clear q6))
      go_ret
      exact ⟨rfl, (hb4.trans (b5.mono hb4.size)).trans (b6.mono (hb4.trans (b5.mono hb4.size)).size)⟩
    · rw [if_neg hc1] at heb
      subst heb
      have hc' : decide (0 ≤ c) = true := decide_eq_true (by omega)
      have hc'' : decide (c < 6) = true := decide_eq_true (by omega)
      have hX := hz1 (by omega)
      have hX1 : ((X : Int) == 0) = false := beq_eq_false_iff_ne.2 (by omega)
      have hX2 : (X == 0) = false := beq_eq_false_iff_ne.2 (by omega)
      clear hz0 hz1 htd hn1 hc1
      clear hq1
      rw [show wErr 0 = .nilIface from rfl]
      go_wp2_with (first
        | (go_at_call 23; refine HT4.out.mono ?_; rintro e w5 ⟨rfl, b5⟩; have q6 := HB4.out w5 b5)
        | (go_at_call 25; refine q6.mono ?_; rintro e w6 ⟨rfl, b6⟩; clear q6))
      go_ret
      exact ⟨rfl, (hb4.trans (b5.mono hb4.size)).trans (b6.mono (hb4.trans (b5.mono hb4.size)).size)⟩
end Go.Proofs.YtajfgmlockjmhaiGreatDoor

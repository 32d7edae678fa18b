/-
  framelaw4.counting: a plan of so many rooms that count, one tick each: its spans.
-/
import Derived.Test.YtajfgmlockjmhaeDoorJa1
import Derived.Test.YtajfgmlockjmhaeDoorJa7
namespace Go.Proofs.YtajfgmlockjmhaeDoor
open Go.RowKit

/-- The plan's box. -/
def PBox (w : World) (b : Nat) (vc : Value) (n : Int) (vs : Value) : Prop := w.cell? ⟨b, 0, none⟩ = some vc ∧ w.cell? ⟨b, 1, none⟩ = some (.int .i64 n) ∧ w.cell? ⟨b, 2, none⟩ = some vs ∧ w.cell? ⟨b, 3, none⟩ = some (.slice none 0 0) ∧ w.frozen? ⟨b, 0, none⟩ = false ∧ w.frozen? ⟨b, 2, none⟩ = false
theorem PBox.alloc {w : World} {b : Nat} {vc : Value} {n : Int} {vs : Value} (h : PBox w b vc n vs) (hb : b < w.heap.size) (o : Obj) : PBox (w.alloc o) b vc n vs := by
  have hB : Below w.heap.size w (w.alloc o) := (Below.refl _ _).alloc (Nat.le_refl _) _
  have hc := fun o => hB.cell (p := ⟨b, o, none⟩) hb
  have hf := fun o => hB.frozen (p := ⟨b, o, none⟩) hb
  unfold PBox
  simp only [hc, hf]
  exact h
theorem PBox.grown {W W' : World} {row : Option Nat} {b : Nat} {vc : Value} {n : Int} {vs : Value} (h : PBox W b vc n vs) (hg : W.grownBy W' row) (hb : b < W.heap.size) (hne : some b ≠ row) : PBox W' b vc n vs := by
  obtain ⟨hc, hf⟩ := box_grown hg hb hne
  unfold PBox
  simp only [hc, hf]
  exact h
theorem PBox.code {w : World} {b : Nat} {vc : Value} {n : Int} {vs : Value} (h : PBox w b vc n vs) (v : Value) : PBox (w.setCell ⟨b, 0, none⟩ v) b v n vs := by
  obtain ⟨c0, c1, c2, c3, f0, f2⟩ := h
  refine ⟨?_, ?_, ?_, ?_, ?_, ?_⟩ <;> simp [go_sem, c0, c1, c2, c3, f0, f2]
theorem PBox.spans {w : World} {b : Nat} {vc : Value} {n : Int} {vs : Value} (h : PBox w b vc n vs) (v : Value) : PBox (w.setCell ⟨b, 2, none⟩ v) b vc n v := by
  obtain ⟨c0, c1, c2, c3, f0, f2⟩ := h
  refine ⟨?_, ?_, ?_, ?_, ?_, ?_⟩ <;> simp [go_sem, c0, c1, c2, c3, f0, f2]
set_option maxRecDepth 100000 in
set_option maxHeartbeats 4000000 in
theorem counting_any (n : Nat) (w : World) (hn : n ≤ 5) :
    Calls Tryd.prog 9 #[.int .i64 n] w fun e w' => ∃ ac lc cc vs, e = .returned (.agg #[.slice ac lc cc, .int .i64 n, vs, .slice none 0 0]) ∧ Sps w' vs (ones n) ∧ Below w.heap.size w w' := by
  obtain ⟨ii, hi, hz0, hz1, hz2⟩ := info_parts infoOps
  obtain ⟨jj, hj, hy0, hy1, hy2⟩ := info_parts infoSp
  go_enter Tryd.func9, Tryd.ntmps9
  go_wp2
  go_loopw [4] (fun i wr => ∃ (k : Nat) (vc vs : Value) (xs : List Value), k ≤ n ∧ i = .int .i64 k ∧ PBox wr (w.heap.size + 1) vc n vs ∧
      wr.ownsRow (w.heap.size + 2) 39 1 vc k xs ∧ wr.ownsRow (w.heap.size + 2) 41 3 vs k (spCells (ones k)) ∧ w.heap.size + 2 ≤ wr.heap.size ∧
      Below (w.heap.size + 1) (w.alloc (.cells #[.slice none 0 0, .int .i64 0, .slice none 0 0, .slice none 0 0] 26)) wr) (fun i _ => n - (intOf i).toNat)
  case atStart =>
    refine ⟨0, .slice none 0 0, .slice none 0 0, [], Nat.zero_le _, rfl, ⟨by simp, by simp, by simp, by simp, by simp, by simp⟩, World.ownsRow_nil _ _ _ _, World.ownsRow_nil _ _ _ _, by simp, (Below.refl _ _).alloc (by simp) _⟩
  case round =>
    obtain ⟨k, vc, vs, xs, hk, rfl, hp, oc, os, hsz, hb⟩ := hrel
    have HP : Hid (PBox wr (w.heap.size + 1) vc n vs) := hp
    obtain ⟨c0, c1, c2, c3, f0, f2⟩ := hp
    by_cases hkn : k < n
    · have hki : (k : Int) < (n : Int) := by omega
      clear c1 c2 c3 f0 f2
      go_wp2_with (at_builtin; refine wpList_append_own _ rfl _ _ 22 rfl (w.heap.size + 2) 39 ii (.slice none 0 0) 1 24 Tryd.underlying22 hi hz0 hz1 hz2 rfl (by decide) _ _ _ rfl ((oc.alloc _).alloc _) ⟨wr.heap.size + 1, 0, none⟩ 1 1 [.slice (some ⟨wr.heap.size, 0, none⟩) 2 2] rfl rfl ?c1A ?c2A ?c3A ?c4A ?c5A ?_)
      case c1A =>
        intro j u hj
        match j, hj with
        | 0, hj => simp at hj; subst hj; simp [Addr.add]
      case c2A => intro u hu; simp at hu; subst hu; rfl
      case c3A => unfold maxLen; omega
      case c4A => omega
      case c5A => simp; omega
      intro v1 w2 oc1 hg1 _
      obtain ⟨g1, cap1, rfl⟩ := own_succ oc1
      have hne1 : some (w.heap.size + 1) ≠ vc.ownBlock := fun e => by have := (oc.lt _ e.symm).1; omega
      have hs1 : wr.heap.size + 2 ≤ w2.heap.size := by have := hg1.size; simpa using this
      have hp2 : PBox w2 (w.heap.size + 1) vc n vs := ((HP.out.alloc (by omega) _).alloc (by simp; omega) _).grown hg1 (by simp; omega) hne1
      have os2 : w2.ownsRow (w.heap.size + 2) 41 3 vs k (spCells (ones k)) := ((os.alloc _).alloc _).kept hg1 (own_apart (by decide) os oc)
      have hb2 : Below (w.heap.size + 1) (w.alloc (.cells #[.slice none 0 0, .int .i64 0, .slice none 0 0, .slice none 0 0] 26)) w2 := ((hb.alloc (by omega) _).alloc (by simp; omega) _).grown hg1 (by simp; omega) (fun j hj => by have := (oc.lt j hj).1; omega)
      clear HP c0 os oc hg1 hb
      have HP2 : Hid (PBox w2 (w.heap.size + 1) vc n vs) := hp2
      obtain ⟨c0, c1, c2, c3, f0, f2⟩ := hp2
      clear c1 c3
      have hlt2 : w.heap.size + 1 < w2.heap.size := by omega
      have os3 := ownsRow_setCell_below os2 (a := ⟨w.heap.size + 1, 0, none⟩) (show w.heap.size + 1 < w.heap.size + 2 by omega) (.slice (some ⟨g1, 0, none⟩) (k + 1) cap1)
      have oc3 := ownsRow_setCell_below oc1 (a := ⟨w.heap.size + 1, 0, none⟩) (show w.heap.size + 1 < w.heap.size + 2 by omega) (.slice (some ⟨g1, 0, none⟩) (k + 1) cap1)
      clear os2 oc1
      go_wp2_with (at_builtin; refine wpList_append_own _ rfl _ _ 23 rfl (w.heap.size + 2) 41 jj (.agg #[.int .i64 0, .int .i64 0, .int .i64 0]) 3 24 Tryd.underlying23 hj hy0 hy1 hy2 rfl (by decide) _ _ _ rfl (os3.alloc _) ⟨w2.heap.size, 0, none⟩ 1 1 [.int .i64 k, .int .i64 (k + 1), .int .i64 k] rfl rfl ?c1A ?c2A ?c3A ?c4A ?c5A ?_)
      case c1A => 
        have := sp_new (w2.setCell ⟨w.heap.size + 1, 0, none⟩ (.slice (some ⟨g1, 0, none⟩) (k + 1) cap1)) (.int .i64 k) (.int .i64 (k + 1)) (.int .i64 k) 41
        simpa using this
      case c2A => intro u hu; simp at hu; rcases hu with rfl | rfl | rfl <;> rfl
      case c3A => unfold maxLen; omega
      case c4A => omega
      case c5A => simp; omega
      intro v2 w5 os5 hg2 _
      obtain ⟨g2, cap2, rfl⟩ := own_succ os5
      have hne2 : some (w.heap.size + 1) ≠ vs.ownBlock := fun e => by have := (os3.lt _ e.symm).1; omega
      have hs2 : w2.heap.size + 1 ≤ w5.heap.size := by have := hg2.size; simpa using this
      have hp5 : PBox w5 (w.heap.size + 1) (.slice (some ⟨g1, 0, none⟩) (k + 1) cap1) n vs := ((HP2.out.code _).alloc (by simp; omega) _).grown hg2 (by simp; omega) hne2
      have oc5 := (oc3.alloc _).kept hg2 (own_apart (by decide) oc3 os3)
      have hb5 : Below (w.heap.size + 1) (w.alloc (.cells #[.slice none 0 0, .int .i64 0, .slice none 0 0, .slice none 0 0] 26)) w5 := ((hb2.setCell (p := ⟨w.heap.size + 1, 0, none⟩) (Nat.le_refl _) _).alloc (by simp; omega) _).grown hg2 (by simp; omega) (fun j hj => by have := (os3.lt j hj).1; omega)
      clear HP2 c0 c2 f0 f2 os3 oc3 hg2 hb2
      have HP5 : Hid (PBox w5 (w.heap.size + 1) (.slice (some ⟨g1, 0, none⟩) (k + 1) cap1) n vs) := hp5
      obtain ⟨c0, c1, c2, c3, f0, f2⟩ := hp5
      clear c0 c1 c3 f0
      have os6 := ownsRow_setCell_below os5 (a := ⟨w.heap.size + 1, 2, none⟩) (show w.heap.size + 1 < w.heap.size + 2 by omega) (.slice (some ⟨g2, 0, none⟩) (k + 1) cap2)
      have oc6 := ownsRow_setCell_below oc5 (a := ⟨w.heap.size + 1, 2, none⟩) (show w.heap.size + 1 < w.heap.size + 2 by omega) (.slice (some ⟨g2, 0, none⟩) (k + 1) cap2)
      clear os5 oc5
      have hlt5 : w.heap.size + 1 < w5.heap.size := by omega
      go_wp2
      go_roundw
      case rel => exact ⟨k + 1, _, _, _, by omega, by go_num, HP5.out.spans _, oc6, by rw [ones_succ, spCells_snoc]; exact os6, by simp; omega, hb5.setCell (p := ⟨w.heap.size + 1, 2, none⟩) (Nat.le_refl _) _⟩
      case measure => simp [intOf]; omega
    · obtain rfl : k = n := by omega
      have hbw : Below w.heap.size w wr := ((Below.refl _ w).alloc (Nat.le_refl _) _).trans (hb.mono (by omega))
      have r0 : wr.cell? ⟨w.heap.size, 0, none⟩ = some (.slice none 0 0) := (hb.cell (p := ⟨w.heap.size, 0, none⟩) (by simp)).trans (by simp)
      have r1 : wr.cell? ⟨w.heap.size, 1, none⟩ = some (.int .i64 0) := (hb.cell (p := ⟨w.heap.size, 1, none⟩) (by simp)).trans (by simp)
      have r2 : wr.cell? ⟨w.heap.size, 2, none⟩ = some (.slice none 0 0) := (hb.cell (p := ⟨w.heap.size, 2, none⟩) (by simp)).trans (by simp)
      have r3 : wr.cell? ⟨w.heap.size, 3, none⟩ = some (.slice none 0 0) := (hb.cell (p := ⟨w.heap.size, 3, none⟩) (by simp)).trans (by simp)
      have g0 : wr.frozen? ⟨w.heap.size, 0, none⟩ = false := (hb.frozen (p := ⟨w.heap.size, 0, none⟩) (by simp)).trans (by simp)
      have g1 : wr.frozen? ⟨w.heap.size, 1, none⟩ = false := (hb.frozen (p := ⟨w.heap.size, 1, none⟩) (by simp)).trans (by simp)
      have g2 : wr.frozen? ⟨w.heap.size, 2, none⟩ = false := (hb.frozen (p := ⟨w.heap.size, 2, none⟩) (by simp)).trans (by simp)
      have g3 : wr.frozen? ⟨w.heap.size, 3, none⟩ = false := (hb.frozen (p := ⟨w.heap.size, 3, none⟩) (by simp)).trans (by simp)
      have os7 := ownsRow_setCell_below (ownsRow_setCell_below (ownsRow_setCell_below (ownsRow_setCell_below os (a := ⟨w.heap.size, 0, none⟩) (show w.heap.size < w.heap.size + 2 by omega) vc) (a := ⟨w.heap.size, 1, none⟩) (show w.heap.size < w.heap.size + 2 by omega) (.int .i64 k)) (a := ⟨w.heap.size, 2, none⟩) (show w.heap.size < w.heap.size + 2 by omega) vs) (a := ⟨w.heap.size, 3, none⟩) (show w.heap.size < w.heap.size + 2 by omega) (.slice none 0 0)
      have hsp := sps_of_own (l := ones k) (by rw [ones_len]; exact os7)
      have HS : Hid (Sps ((((wr.setCell ⟨w.heap.size, 0, none⟩ vc).setCell ⟨w.heap.size, 1, none⟩ (.int .i64 k)).setCell ⟨w.heap.size, 2, none⟩ vs).setCell ⟨w.heap.size, 3, none⟩ (.slice none 0 0)) vs (ones k)) := hsp
      obtain ⟨q1, q2, q3, rfl⟩ := own_form oc
      obtain ⟨q4, q5, q6, rfl⟩ := own_form os
      clear os7 hsp oc os HP
      go_wp2
      refine bodyPost_ret (v := .agg #[.slice q1 q2 q3, .int .i64 k, .slice q4 q5 q6, .slice none 0 0]) ?_ rfl ⟨_, _, _, _, rfl, HS.out, ?_⟩
      · simp [results, Tryd.results9, go_sem, r0, r1, r2, r3]
      · repeat' first | exact hbw | refine Below.setCell ?_ (by simp) _
end Go.Proofs.YtajfgmlockjmhaeDoor

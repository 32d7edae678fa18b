/-
  OnesM, KCountM, CountPlan, CountPlan2, KCounts: joined into one text.
-/
import Derived.Test.YtfconbblnmbnpadDoorJa1
import Derived.RangeFuncNested
import Derived.Deep.CutRange
import Derived.Deep.RegionWith
import Derived.BigQuiet
import Derived.Test.YtfconbblnmbnpadDoorJa8
namespace Go.Proofs.YtfconbblnmbnpadDoor

/-- The spans: one tick each, one behind the other. -/
def ones (k : Nat) : List S3 := (List.range k).map fun (i : Nat) => ((i : Int), (i : Int) + 1, (i : Int))
theorem ones_succ (k : Nat) : ones (k + 1) = ones k ++ [((k : Int), (k : Int) + 1, (k : Int))] := by simp [ones, List.range_succ]
theorem ones_len (k : Nat) : (ones k).length = k := by simp [ones]
end Go.Proofs.YtfconbblnmbnpadDoor
namespace Go.Proofs.YtfconbblnmbnpadDoor

/-- The code of a room that counts. -/
def cntC : List O3 := [(1, 1, 1), (3, 0, 1)]
/-- So many rooms that count. -/
def cntP (n : Nat) : PD := ⟨List.replicate n cntC, n, ones n, []⟩
theorem cntP_ok : ∀ n : Nat, n < 6 → 1 ≤ n → plchk (cntP n) = 0 := by decide +kernel
theorem cnt_hold : ∀ n : Nat, n < 6 → ∀ q : Nat, q < n → hold (ones n) (q : Int) = (q : Int) := by decide +kernel
/-- A room behind so many steps. -/
def cntS (j : Nat) : St := ⟨((j % 2 : Nat) : Int), fun i => if i = 0 then (((j / 2) % 1000 : Nat) : Int) else if i = 1 then (if j = 0 then 0 else 1) else 0, false⟩
theorem cntS_new : cntS 0 = stNew := by
  unfold cntS stNew
  congr 1
  funext i
  by_cases h0 : i = 0
  · simp [h0]
  · by_cases h1 : i = 1
    · simp [h1]
    · simp [h0, h1]
theorem cntS_even (j : Nat) (h : j % 2 = 0) : stepF (1, 1, 1) (cntS j) 2 0 false = cntS (j + 1) := by
  have h1 : (j + 1) % 2 = 1 := by omega
  have h2 : (j + 1) / 2 = j / 2 := by omega
  have hp : nextF (1, 1, 1) (cntS j) 2 false = (cntS (j + 1)).p := by unfold nextF; simp [cntS, h, h1]
  have hc : cellsF (1, 1, 1) (cntS j).c 0 false = (cntS (j + 1)).c := by
    funext i
    show upd (cntS j).c 1 1 i = _
    unfold upd cntS
    by_cases h0 : i = 0
    · subst h0; simp [h2]
    · by_cases h3 : i = 1
      · subst h3; simp
      · simp [h0, h3]
  unfold stepF
  rw [if_neg (by simp [cntS]), hp, hc]
  rfl
theorem cntS_odd (j : Nat) (h : j % 2 = 1) : stepF (3, 0, 1) (cntS j) 2 0 false = cntS (j + 1) := by
  have h1 : (j + 1) % 2 = 0 := by omega
  have h2 : (j + 1) / 2 = j / 2 + 1 := by omega
  have h3 : j ≠ 0 := by omega
  have hp : nextF (3, 0, 1) (cntS j) 2 false = (cntS (j + 1)).p := by unfold nextF; simp [cntS, h, h1]
  have hc : cellsF (3, 0, 1) (cntS j).c 0 false = (cntS (j + 1)).c := by
    funext i
    show upd (cntS j).c 0 (((cntS j).c 0 + (cntS j).c 1) % 1000) i = _
    unfold upd cntS
    by_cases h0 : i = 0
    · subst h0
      simp [h2, h3]
    · by_cases h4 : i = 1
      · subst h4; simp [h3]
      · simp [h0, h4]
  unfold stepF
  rw [if_neg (by simp [cntS]), hp, hc]
  rfl
/-- How many turns a room had. -/
def cntT (n r t : Nat) : Nat := (t + n - 1 - r) / n
theorem cntT_next {n r t : Nat} (hn : 0 < n) (hr : r < n) : cntT n r (t + 1) = if r = t % n then cntT n r t + 1 else cntT n r t := by
  unfold cntT
  have hd := Nat.div_add_mod t n
  have hm := Nat.mod_lt t hn
  generalize t / n = q at hd
  generalize t % n = m at hd hm
  subst hd
  split
  · rename_i h
    subst h
    rw [show n * q + r + 1 + n - 1 - r = n * (q + 1) by rw [Nat.mul_add]; omega, show n * q + r + n - 1 - r = n * q + (n - 1) by omega, Nat.mul_div_cancel_left _ hn, Nat.mul_add_div hn, Nat.div_eq_of_lt (by omega)]
  · rename_i h
    by_cases hlt : r < m
    · rw [show n * q + m + 1 + n - 1 - r = n * (q + 1) + (m - r) by rw [Nat.mul_add]; omega, show n * q + m + n - 1 - r = n * (q + 1) + (m - r - 1) by rw [Nat.mul_add]; omega, Nat.mul_add_div hn, Nat.mul_add_div hn, Nat.div_eq_of_lt (by omega), Nat.div_eq_of_lt (by omega)]
    · rw [show n * q + m + 1 + n - 1 - r = n * q + (m + n - r) by omega, show n * q + m + n - 1 - r = n * q + (m + n - r - 1) by omega, Nat.mul_add_div hn, Nat.mul_add_div hn, Nat.div_eq_of_lt (by omega), Nat.div_eq_of_lt (by omega)]
/-- All of it behind so many ticks. -/
def cntK (n t : Nat) : KD := ⟨(List.range n).map fun r => cntS (cntT n r t), [], t⟩
theorem cntK_new (n : Nat) : newK (cntP n) = cntK n 0 := by
  unfold newK cntK cntP
  simp only [List.map_replicate, List.map_nil, KD.mk.injEq, true_and]
  refine ⟨?_, rfl⟩
  apply List.ext_getElem?
  intro i
  by_cases hi : i < n
  · have : cntT n i 0 = 0 := by unfold cntT; exact Nat.div_eq_of_lt (by omega)
    simp [hi, this, cntS_new]
  · simp [hi]
theorem cntK_room {n t r : Nat} (hr : r < n) : (cntK n t).rooms[r]? = some (cntS (cntT n r t)) := by simp [cntK, hr]
theorem cntK_tick {n t : Nat} (hn : 0 < n) (h5 : n < 6) : (tickK (cntP n) (cntP n).spans (cntK n t)).1 = cntK n (t + 1) := by
  have hm := Nat.mod_lt t hn
  have hh : hold (cntP n).spans ((cntK n t).time % (cntP n).ticks) = ((t % n : Nat) : Int) := by
    show hold (ones n) ((t : Int) % (n : Int)) = _
    rw [show (t : Int) % (n : Int) = ((t % n : Nat) : Int) from rfl]
    exact cnt_hold n h5 _ hm
  unfold tickK
  simp only [hh]
  rw [if_neg (by omega), Int.toNat_natCast]
  generalize hq : t % n = q at hm
  unfold turnK
  have hc : (cntP n).code.getD q [] = cntC := by simp [cntP, List.getD, hm]
  have hs : (cntK n t).rooms.getD q stNew = cntS (cntT n q t) := by simp [List.getD, cntK_room hm]
  simp only [hc, hs]
  have hst : ∀ j, stepF (opAt cntC (cntS j)) (cntS j) cntC.length (gotK (cntK n t) (opAt cntC (cntS j)) (cntS j)).1 (gotK (cntK n t) (opAt cntC (cntS j)) (cntS j)).2 = cntS (j + 1) ∧ linesS (linesT (cntK n t) (opAt cntC (cntS j)) (cntS j)) (opAt cntC (cntS j)) (sendF (opAt cntC (cntS j)) (cntS j)) = [] := fun j => by
    rcases Nat.mod_two_eq_zero_or_one j with h | h
    · have ho : opAt cntC (cntS j) = (1, 1, 1) := by unfold opAt; simp [cntS, h, cntC]
      rw [ho]
      exact ⟨cntS_even j h, rfl⟩
    · have ho : opAt cntC (cntS j) = (3, 0, 1) := by unfold opAt; simp [cntS, h, cntC]
      rw [ho]
      exact ⟨cntS_odd j h, rfl⟩
  rw [(hst _).1, (hst _).2]
  unfold cntK
  simp only [KD.mk.injEq, true_and]
  refine ⟨?_, by simp⟩
  apply List.ext_getElem?
  intro i
  by_cases hi : i < n
  · rw [List.getElem?_set]
    simp only [List.length_map, List.length_range, List.getElem?_map, List.getElem?_range hi, Option.map_some]
    rw [cntT_next hn hi, hq]
    by_cases hqi : q = i
    · subst hqi
      simp [hm]
    · simp [hqi, Ne.symm hqi]
  · simp [hi]
theorem cntK_ok {n : Nat} (hn : 0 < n) (h5 : n < 6) : ∀ t, KOk (cntP n) (cntK n t)
  | 0 => by rw [← cntK_new n]; exact new_ok (cntP_ok n h5 hn)
  | t + 1 => by rw [← cntK_tick hn h5]; exact tick_ok (cntP_ok n h5 hn) (cntK_ok hn h5 t)
/-- Behind whole frames of their steps all have counted alike. -/
theorem cntT_whole {n r m : Nat} (hn : 0 < n) (hr : r < n) : cntT n r (2 * n * m) = 2 * m := by
  unfold cntT
  rw [show 2 * n * m + n - 1 - r = n * (2 * m) + (n - 1 - r) by rw [show 2 * n * m = n * (2 * m) by rw [Nat.mul_comm 2 n, Nat.mul_assoc]]; omega, Nat.mul_add_div hn, Nat.div_eq_of_lt (by omega)]
  omega
theorem cntS_whole {m : Nat} (hm : m ≤ 40) : (cntS (2 * m)).p = 0 ∧ (cntS (2 * m)).c 0 = (m : Int) := by
  unfold cntS
  refine ⟨?_, ?_⟩
  · show ((2 * m % 2 : Nat) : Int) = 0
    omega
  · show (((2 * m / 2) % 1000 : Nat) : Int) = m
    omega
end Go.Proofs.YtfconbblnmbnpadDoor
namespace Go.Proofs.YtfconbblnmbnpadDoor
open Go.RowKit

/-- The plan's box. -/
def PBox (w : World) (b : Nat) (vc : Value) (n : Int) (vs : Value) : Prop := w.cell? ⟨b, 0, none⟩ = some vc ∧ w.cell? ⟨b, 1, none⟩ = some (.int .i64 n) ∧ w.cell? ⟨b, 2, none⟩ = some vs ∧ w.cell? ⟨b, 3, none⟩ = some (.slice none 0 0) ∧ w.frozen? ⟨b, 0, none⟩ = false ∧ w.frozen? ⟨b, 2, none⟩ = false
theorem PBox.alloc {w : World} {b : Nat} {vc : Value} {n : Int} {vs : Value} (h : PBox w b vc n vs) (hb : b < w.heap.size) (o : Obj) : PBox (w.alloc o) b vc n vs := by
  have hB : Below w.heap.size w (w.alloc o) := (Below.refl _ _).alloc (Nat.le_refl _) _
  have hc := fun o => hB.cell (p := ⟨b, o, none⟩) hb
  have hf := fun o => hB.frozen (p := ⟨b, o, none⟩) hb
  unfold PBox
  simp only [hc, hf]
  exact h
theorem PBox.grown {W W' : World} {row : Option Nat} {b : Nat} {vc : Value} {n : Int} {vs : Value} (h : PBox W b vc n vs) (hg : W.grownBy W' row) (hb : b < W.heap.size) (hne : some b ≠ row) : PBox W' b vc n vs := by
  obtain ⟨hc, hf⟩ := box_grown hg hb hne
  unfold PBox
  simp only [hc, hf]
  exact h
theorem PBox.code {w : World} {b : Nat} {vc : Value} {n : Int} {vs : Value} (h : PBox w b vc n vs) (v : Value) : PBox (w.setCell ⟨b, 0, none⟩ v) b v n vs := by
  obtain ⟨c0, c1, c2, c3, f0, f2⟩ := h
  refine ⟨?_, ?_, ?_, ?_, ?_, ?_⟩ <;> simp [go_sem, c0, c1, c2, c3, f0, f2]
theorem PBox.spans {w : World} {b : Nat} {vc : Value} {n : Int} {vs : Value} (h : PBox w b vc n vs) (v : Value) : PBox (w.setCell ⟨b, 2, none⟩ v) b vc n v := by
  obtain ⟨c0, c1, c2, c3, f0, f2⟩ := h
  refine ⟨?_, ?_, ?_, ?_, ?_, ?_⟩ <;> simp [go_sem, c0, c1, c2, c3, f0, f2]
set_option maxRecDepth 100000 in
set_option maxHeartbeats 4000000 in
theorem counting_any (n : Nat) (w : World) (hn : n ≤ 5) :
    Calls Tryd.prog 17 #[.int .i64 n] w fun e w' => ∃ ac lc cc vs, e = .returned (.agg #[.slice ac lc cc, .int .i64 n, vs, .slice none 0 0]) ∧ Sps w' vs (ones n) ∧ Below w.heap.size w w' := by
  obtain ⟨ii, hi, hz0, hz1, hz2⟩ := info_parts infoOps
  obtain ⟨jj, hj, hy0, hy1, hy2⟩ := info_parts infoSp
  go_enter Tryd.func17, Tryd.ntmps17
  go_wp2
  go_loopw [4] (fun i wr => ∃ (k : Nat) (vc vs : Value) (xs : List Value), k ≤ n ∧ i = .int .i64 k ∧ PBox wr (w.heap.size + 1) vc n vs ∧
      wr.ownsRow (w.heap.size + 2) 26 1 vc k xs ∧ wr.ownsRow (w.heap.size + 2) 42 3 vs k (spCells (ones k)) ∧ w.heap.size + 2 ≤ wr.heap.size ∧
      Below (w.heap.size + 1) (w.alloc (.cells #[.slice none 0 0, .int .i64 0, .slice none 0 0, .slice none 0 0] 31)) wr) (fun i _ => n - (intOf i).toNat)
  case atStart =>
    refine ⟨0, .slice none 0 0, .slice none 0 0, [], Nat.zero_le _, rfl, ⟨by simp, by simp, by simp, by simp, by simp, by simp⟩, World.ownsRow_nil _ _ _ _, World.ownsRow_nil _ _ _ _, by simp, (Below.refl _ _).alloc (by simp) _⟩
  case round =>
    obtain ⟨k, vc, vs, xs, hk, rfl, hp, oc, os, hsz, hb⟩ := hrel
    have HP : Hid (PBox wr (w.heap.size + 1) vc n vs) := hp
    obtain ⟨c0, c1, c2, c3, f0, f2⟩ := hp
    by_cases hkn : k < n
    · have hki : (k : Int) < (n : Int) := by omega
      clear c1 c2 c3 f0 f2
      go_wp2_with (at_builtin; refine wpList_append_own _ rfl _ _ 27 rfl (w.heap.size + 2) 26 ii (.slice none 0 0) 1 24 Tryd.underlying27 hi hz0 hz1 hz2 rfl (by decide) _ _ _ rfl ((oc.alloc _).alloc _) ⟨wr.heap.size + 1, 0, none⟩ 1 1 [.slice (some ⟨wr.heap.size, 0, none⟩) 2 2] rfl rfl ?c1A ?c2A ?c3A ?c4A ?c5A ?_)
      case c1A =>
        intro j u hj
        match j, hj with
        | 0, hj => simp at hj; subst hj; simp [Addr.add]
      case c2A => intro u hu; simp at hu; subst hu; rfl
      case c3A => unfold maxLen; omega
      case c4A => omega
      case c5A => simp; omega
      intro v1 w2 oc1 hg1 _
      obtain ⟨g1, cap1, rfl⟩ := own_succ oc1
      have hne1 : some (w.heap.size + 1) ≠ vc.ownBlock := fun e => by have := (oc.lt _ e.symm).1; omega
      have hs1 : wr.heap.size + 2 ≤ w2.heap.size := by have := hg1.size; simpa using this
      have hp2 : PBox w2 (w.heap.size + 1) vc n vs := ((HP.out.alloc (by omega) _).alloc (by simp; omega) _).grown hg1 (by simp; omega) hne1
      have os2 : w2.ownsRow (w.heap.size + 2) 42 3 vs k (spCells (ones k)) := ((os.alloc _).alloc _).kept hg1 (own_apart (by decide) os oc)
      have hb2 : Below (w.heap.size + 1) (w.alloc (.cells #[.slice none 0 0, .int .i64 0, .slice none 0 0, .slice none 0 0] 31)) w2 := ((hb.alloc (by omega) _).alloc (by simp; omega) _).grown hg1 (by simp; omega) (fun j hj => by have := (oc.lt j hj).1; omega)
      clear HP c0 os oc hg1 hb
      have HP2 : Hid (PBox w2 (w.heap.size + 1) vc n vs) := hp2
      obtain ⟨c0, c1, c2, c3, f0, f2⟩ := hp2
      clear c1 c3
      have hlt2 : w.heap.size + 1 < w2.heap.size := by omega
      have os3 := ownsRow_setCell_below os2 (a := ⟨w.heap.size + 1, 0, none⟩) (show w.heap.size + 1 < w.heap.size + 2 by omega) (.slice (some ⟨g1, 0, none⟩) (k + 1) cap1)
      have oc3 := ownsRow_setCell_below oc1 (a := ⟨w.heap.size + 1, 0, none⟩) (show w.heap.size + 1 < w.heap.size + 2 by omega) (.slice (some ⟨g1, 0, none⟩) (k + 1) cap1)
      clear os2 oc1
      go_wp2_with (at_builtin; refine wpList_append_own _ rfl _ _ 29 rfl (w.heap.size + 2) 42 jj (.agg #[.int .i64 0, .int .i64 0, .int .i64 0]) 3 24 Tryd.underlying29 hj hy0 hy1 hy2 rfl (by decide) _ _ _ rfl (os3.alloc _) ⟨w2.heap.size, 0, none⟩ 1 1 [.int .i64 k, .int .i64 (k + 1), .int .i64 k] rfl rfl ?c1A ?c2A ?c3A ?c4A ?c5A ?_)
      case c1A => 
        have := sp_new (w2.setCell ⟨w.heap.size + 1, 0, none⟩ (.slice (some ⟨g1, 0, none⟩) (k + 1) cap1)) (.int .i64 k) (.int .i64 (k + 1)) (.int .i64 k) 42
        simpa using this
      case c2A => intro u hu; simp at hu; rcases hu with rfl | rfl | rfl <;> rfl
      case c3A => unfold maxLen; omega
      case c4A => omega
      case c5A => simp; omega
      intro v2 w5 os5 hg2 _
      obtain ⟨g2, cap2, rfl⟩ := own_succ os5
      have hne2 : some (w.heap.size + 1) ≠ vs.ownBlock := fun e => by have := (os3.lt _ e.symm).1; omega
      have hs2 : w2.heap.size + 1 ≤ w5.heap.size := by have := hg2.size; simpa using this
      have hp5 : PBox w5 (w.heap.size + 1) (.slice (some ⟨g1, 0, none⟩) (k + 1) cap1) n vs := ((HP2.out.code _).alloc (by simp; omega) _).grown hg2 (by simp; omega) hne2
      have oc5 := (oc3.alloc _).kept hg2 (own_apart (by decide) oc3 os3)
      have hb5 : Below (w.heap.size + 1) (w.alloc (.cells #[.slice none 0 0, .int .i64 0, .slice none 0 0, .slice none 0 0] 31)) w5 := ((hb2.setCell (p := ⟨w.heap.size + 1, 0, none⟩) (Nat.le_refl _) _).alloc (by simp; omega) _).grown hg2 (by simp; omega) (fun j hj => by have := (os3.lt j hj).1; omega)
      clear HP2 c0 c2 f0 f2 os3 oc3 hg2 hb2
      have HP5 : Hid (PBox w5 (w.heap.size + 1) (.slice (some ⟨g1, 0, none⟩) (k + 1) cap1) n vs) := hp5
      obtain ⟨c0, c1, c2, c3, f0, f2⟩ := hp5
      clear c0 c1 c3 f0
      have os6 := ownsRow_setCell_below os5 (a := ⟨w.heap.size + 1, 2, none⟩) (show w.heap.size + 1 < w.heap.size + 2 by omega) (.slice (some ⟨g2, 0, none⟩) (k + 1) cap2)
      have oc6 := ownsRow_setCell_below oc5 (a := ⟨w.heap.size + 1, 2, none⟩) (show w.heap.size + 1 < w.heap.size + 2 by omega) (.slice (some ⟨g2, 0, none⟩) (k + 1) cap2)
      clear os5 oc5
      have hlt5 : w.heap.size + 1 < w5.heap.size := by omega
      go_wp2
      go_roundw
      case rel => exact ⟨k + 1, _, _, _, by omega, by go_num, HP5.out.spans _, oc6, by rw [ones_succ, spCells_snoc]; exact os6, by simp; omega, hb5.setCell (p := ⟨w.heap.size + 1, 2, none⟩) (Nat.le_refl _) _⟩
      case measure => simp [intOf]; omega
    · obtain rfl : k = n := by omega
      have hbw : Below w.heap.size w wr := ((Below.refl _ w).alloc (Nat.le_refl _) _).trans (hb.mono (by omega))
      have r0 : wr.cell? ⟨w.heap.size, 0, none⟩ = some (.slice none 0 0) := (hb.cell (p := ⟨w.heap.size, 0, none⟩) (by simp)).trans (by simp)
      have r1 : wr.cell? ⟨w.heap.size, 1, none⟩ = some (.int .i64 0) := (hb.cell (p := ⟨w.heap.size, 1, none⟩) (by simp)).trans (by simp)
      have r2 : wr.cell? ⟨w.heap.size, 2, none⟩ = some (.slice none 0 0) := (hb.cell (p := ⟨w.heap.size, 2, none⟩) (by simp)).trans (by simp)
      have r3 : wr.cell? ⟨w.heap.size, 3, none⟩ = some (.slice none 0 0) := (hb.cell (p := ⟨w.heap.size, 3, none⟩) (by simp)).trans (by simp)
      have g0 : wr.frozen? ⟨w.heap.size, 0, none⟩ = false := (hb.frozen (p := ⟨w.heap.size, 0, none⟩) (by simp)).trans (by simp)
      have g1 : wr.frozen? ⟨w.heap.size, 1, none⟩ = false := (hb.frozen (p := ⟨w.heap.size, 1, none⟩) (by simp)).trans (by simp)
      have g2 : wr.frozen? ⟨w.heap.size, 2, none⟩ = false := (hb.frozen (p := ⟨w.heap.size, 2, none⟩) (by simp)).trans (by simp)
      have g3 : wr.frozen? ⟨w.heap.size, 3, none⟩ = false := (hb.frozen (p := ⟨w.heap.size, 3, none⟩) (by simp)).trans (by simp)
      have os7 := ownsRow_setCell_below (ownsRow_setCell_below (ownsRow_setCell_below (ownsRow_setCell_below os (a := ⟨w.heap.size, 0, none⟩) (show w.heap.size < w.heap.size + 2 by omega) vc) (a := ⟨w.heap.size, 1, none⟩) (show w.heap.size < w.heap.size + 2 by omega) (.int .i64 k)) (a := ⟨w.heap.size, 2, none⟩) (show w.heap.size < w.heap.size + 2 by omega) vs) (a := ⟨w.heap.size, 3, none⟩) (show w.heap.size < w.heap.size + 2 by omega) (.slice none 0 0)
      have hsp := sps_of_own (l := ones k) (by rw [ones_len]; exact os7)
      have HS : Hid (Sps ((((wr.setCell ⟨w.heap.size, 0, none⟩ vc).setCell ⟨w.heap.size, 1, none⟩ (.int .i64 k)).setCell ⟨w.heap.size, 2, none⟩ vs).setCell ⟨w.heap.size, 3, none⟩ (.slice none 0 0)) vs (ones k)) := hsp
      obtain ⟨q1, q2, q3, rfl⟩ := own_form oc
      obtain ⟨q4, q5, q6, rfl⟩ := own_form os
      clear os7 hsp oc os HP
      go_wp2
      refine bodyPost_ret (v := .agg #[.slice q1 q2 q3, .int .i64 k, .slice q4 q5 q6, .slice none 0 0]) ?_ rfl ⟨_, _, _, _, rfl, HS.out, ?_⟩
      · simp [results, Tryd.results17, go_sem, r0, r1, r2, r3]
      · repeat' first | exact hbw | refine Below.setCell ?_ (by simp) _
end Go.Proofs.YtfconbblnmbnpadDoor
namespace Go.Proofs.YtfconbblnmbnpadDoor
open Go.RowKit

/-- The code of a room that counts, in its block. -/
def OB (W : World) (b : Nat) : Prop := W.heap[b]? = some (.cells #[.int .i64 1, .int .i64 1, .int .i64 1, .int .i64 3, .int .i64 0, .int .i64 1] 25 (0, 0))
def opsV (b : Nat) : Value := .slice (some ⟨b, 0, none⟩) 2 2
theorem OB.lt {W : World} {b : Nat} (h : OB W b) : b < W.heap.size := (Array.getElem?_eq_some_iff.1 h).1
theorem OB.ne {W : World} {b base : Nat} {v : Value} {n : Nat} {xs : List Value} (h : OB W b) (ho : W.ownsRow base 26 1 v n xs) : some b ≠ v.ownBlock := fun e => by
  have h1 : W.heap[b]? = _ := h
  rcases ho.2 with ⟨h2, _⟩ | ⟨g, cap, cur, h2, _, h3, _⟩
  · rw [h2] at e
    cases e
  · rw [h2] at e
    simp only [Value.ownBlock, Option.some.injEq] at e
    subst e
    rw [h1] at h3
    injection h3 with h3
    injection h3 with _ h4
    exact absurd h4 (by decide)
theorem OB.ne' {W : World} {b base : Nat} {v : Value} {n : Nat} {xs : List Value} (h : OB W b) (ho : W.ownsRow base 42 3 v n xs) : some b ≠ v.ownBlock := fun e => by
  have h1 : W.heap[b]? = _ := h
  rcases ho.2 with ⟨h2, _⟩ | ⟨g, cap, cur, h2, _, h3, _⟩
  · rw [h2] at e
    cases e
  · rw [h2] at e
    simp only [Value.ownBlock, Option.some.injEq] at e
    subst e
    rw [h1] at h3
    injection h3 with h3
    injection h3 with _ h4
    exact absurd h4 (by decide)
theorem OB.ops {W : World} {b : Nat} (h : OB W b) : Ops W (opsV b) cntC := by
  have e : W.heap[b]? = _ := h
  refine Or.inr ⟨b, 0, 2, rfl, h.lt, fun i o ho => ?_⟩
  match i, ho with
  | 0, ho => simp [cntC] at ho; subst ho; simp [World.cell?, e]
  | 1, ho => simp [cntC] at ho; subst ho; simp [World.cell?, e]
  | i + 2, ho => simp [cntC] at ho
theorem cds_own {W : World} {base k : Nat} {v : Value} {bs : List Nat} (ho : W.ownsRow base 26 1 v bs.length (bs.map opsV)) (hb : ∀ b ∈ bs, OB W b) (hk : bs.length = k) : Cds W v (cntP k).code := by
  subst hk
  rcases ho.2 with ⟨h2, h3⟩ | ⟨g, cap, cur, h2, h3, h4, h5, h6, h7, h8⟩
  · refine Or.inl ⟨?_, none, 0, h2⟩
    rw [List.length_eq_zero_iff.1 h3]
    rfl
  · refine Or.inr ⟨g, 0, cap, by rw [h2]; simp [cntP], by simpa [cntP] using h5, (Array.getElem?_eq_some_iff.1 h4).1, fun i c hi => ?_⟩
    have hlt : i < bs.length := by have := (List.getElem?_eq_some_iff.1 hi).1; simpa [cntP] using this
    have hc : c = cntC := by simpa [cntP, hlt] using hi.symm
    subst hc
    have hcell := ho.cells (g := g) (by rw [h2]; rfl) i (opsV bs[i]) (by simp [hlt])
    rw [Addr.add_lit, Nat.zero_add] at hcell
    exact ⟨_, by rw [Nat.zero_add]; exact hcell, (hb _ (List.getElem_mem hlt)).ops⟩
set_option maxRecDepth 100000 in
set_option maxHeartbeats 4000000 in
theorem counting_plan (n : Nat) (w : World) (hn : n ≤ 5) :
    Calls Tryd.prog 17 #[.int .i64 n] w fun e w' => ∃ vc vs, e = .returned (plV vc n vs (.slice none 0 0)) ∧ Pln w' vc vs (.slice none 0 0) (cntP n) ∧ Below w.heap.size w w' := by
  obtain ⟨ii, hi, hz0, hz1, hz2⟩ := info_parts infoOps
  obtain ⟨jj, hj, hy0, hy1, hy2⟩ := info_parts infoSp
  go_enter Tryd.func17, Tryd.ntmps17
  go_wp2
  go_loopw [4] (fun i wr => ∃ (k : Nat) (vc vs : Value) (bs : List Nat), bs.length = k ∧ (∀ b ∈ bs, OB wr b ∧ w.heap.size + 2 ≤ b) ∧ k ≤ n ∧ i = .int .i64 k ∧ PBox wr (w.heap.size + 1) vc n vs ∧
      wr.ownsRow (w.heap.size + 2) 26 1 vc k (bs.map opsV) ∧ wr.ownsRow (w.heap.size + 2) 42 3 vs k (spCells (ones k)) ∧ w.heap.size + 2 ≤ wr.heap.size ∧
      Below (w.heap.size + 1) (w.alloc (.cells #[.slice none 0 0, .int .i64 0, .slice none 0 0, .slice none 0 0] 31)) wr) (fun i _ => n - (intOf i).toNat)
  case atStart =>
    refine ⟨0, .slice none 0 0, .slice none 0 0, [], rfl, fun b hb => (by cases hb), Nat.zero_le _, rfl, ⟨by simp, by simp, by simp, by simp, by simp, by simp⟩, World.ownsRow_nil _ _ _ _, World.ownsRow_nil _ _ _ _, by simp, (Below.refl _ _).alloc (by simp) _⟩
  case round =>
    obtain ⟨k, vc, vs, bs, hbl, hob, hk, rfl, hp, oc, os, hsz, hb⟩ := hrel
    have HBL : Hid (bs.length = k) := hbl
    have HOB : Hid (∀ b ∈ bs, OB wr b ∧ w.heap.size + 2 ≤ b) := hob
    clear hbl hob
    have HP : Hid (PBox wr (w.heap.size + 1) vc n vs) := hp
    obtain ⟨c0, c1, c2, c3, f0, f2⟩ := hp
    by_cases hkn : k < n
    · have hki : (k : Int) < (n : Int) := by omega
      clear c1 c2 c3 f0 f2
      go_wp2_with (at_builtin; refine wpList_append_own _ rfl _ _ 27 rfl (w.heap.size + 2) 26 ii (.slice none 0 0) 1 24 Tryd.underlying27 hi hz0 hz1 hz2 rfl (by decide) _ _ _ rfl ((oc.alloc _).alloc _) ⟨wr.heap.size + 1, 0, none⟩ 1 1 [.slice (some ⟨wr.heap.size, 0, none⟩) 2 2] rfl rfl ?c1A ?c2A ?c3A ?c4A ?c5A ?_)
      case c1A =>
        intro j u hj
        match j, hj with
        | 0, hj => simp at hj; subst hj; simp [Addr.add]
      case c2A => intro u hu; simp at hu; subst hu; rfl
      case c3A => unfold maxLen; omega
      case c4A => omega
      case c5A => simp; omega
      intro v1 w2 oc1 hg1 _
      obtain ⟨g1, cap1, rfl⟩ := own_succ oc1
      have hne1 : some (w.heap.size + 1) ≠ vc.ownBlock := fun e => by have := (oc.lt _ e.symm).1; omega
      have hs1 : wr.heap.size + 2 ≤ w2.heap.size := by have := hg1.size; simpa using this
      have hp2 : PBox w2 (w.heap.size + 1) vc n vs := ((HP.out.alloc (by omega) _).alloc (by simp; omega) _).grown hg1 (by simp; omega) hne1
      have hob2 : ∀ b ∈ bs ++ [wr.heap.size], OB w2 b ∧ w.heap.size + 2 ≤ b := fun b hb => by
        rcases List.mem_append.1 hb with h1 | h1
        · obtain ⟨h2, h3⟩ := HOB.out b h1
          have h4 := h2.lt
          refine ⟨(hg1.block b (by simp; omega) (h2.ne oc)).trans ?_, h3⟩
          rw [Below.heap_alloc _ _ _ (by simp; omega), Below.heap_alloc _ _ _ h4]
          exact h2
        · rw [List.mem_singleton] at h1
          subst h1
          refine ⟨(hg1.block _ (by simp; omega) (fun e => by have := (oc.lt _ e.symm).2; omega)).trans ?_, hsz⟩
          rw [Below.heap_alloc _ _ _ (by simp)]
          exact World.alloc_heap_new wr _
      have os2 : w2.ownsRow (w.heap.size + 2) 42 3 vs k (spCells (ones k)) := ((os.alloc _).alloc _).kept hg1 (own_apart (by decide) os oc)
      have hb2 : Below (w.heap.size + 1) (w.alloc (.cells #[.slice none 0 0, .int .i64 0, .slice none 0 0, .slice none 0 0] 31)) w2 := ((hb.alloc (by omega) _).alloc (by simp; omega) _).grown hg1 (by simp; omega) (fun j hj => by have := (oc.lt j hj).1; omega)
      clear HP c0 os oc hg1 hb
      have HP2 : Hid (PBox w2 (w.heap.size + 1) vc n vs) := hp2
      obtain ⟨c0, c1, c2, c3, f0, f2⟩ := hp2
      clear c1 c3
      have hlt2 : w.heap.size + 1 < w2.heap.size := by omega
      have os3 := ownsRow_setCell_below os2 (a := ⟨w.heap.size + 1, 0, none⟩) (show w.heap.size + 1 < w.heap.size + 2 by omega) (.slice (some ⟨g1, 0, none⟩) (k + 1) cap1)
      have oc3 := ownsRow_setCell_below oc1 (a := ⟨w.heap.size + 1, 0, none⟩) (show w.heap.size + 1 < w.heap.size + 2 by omega) (.slice (some ⟨g1, 0, none⟩) (k + 1) cap1)
      have HO3 : Hid (∀ b ∈ bs ++ [wr.heap.size], OB (w2.setCell ⟨w.heap.size + 1, 0, none⟩ (.slice (some ⟨g1, 0, none⟩) (k + 1) cap1)) b ∧ w.heap.size + 2 ≤ b) := fun b hb => by
        obtain ⟨h2, h3⟩ := hob2 b hb
        exact ⟨(Below.heap_setCell _ _ _ _ (show b ≠ w.heap.size + 1 by omega)).trans h2, h3⟩
      clear os2 oc1 hob2
      go_wp2_with (at_builtin; refine wpList_append_own _ rfl _ _ 29 rfl (w.heap.size + 2) 42 jj (.agg #[.int .i64 0, .int .i64 0, .int .i64 0]) 3 24 Tryd.underlying29 hj hy0 hy1 hy2 rfl (by decide) _ _ _ rfl (os3.alloc _) ⟨w2.heap.size, 0, none⟩ 1 1 [.int .i64 k, .int .i64 (k + 1), .int .i64 k] rfl rfl ?c1A ?c2A ?c3A ?c4A ?c5A ?_)
      case c1A => 
        have := sp_new (w2.setCell ⟨w.heap.size + 1, 0, none⟩ (.slice (some ⟨g1, 0, none⟩) (k + 1) cap1)) (.int .i64 k) (.int .i64 (k + 1)) (.int .i64 k) 42
        simpa using this
      case c2A => intro u hu; simp at hu; rcases hu with rfl | rfl | rfl <;> rfl
      case c3A => unfold maxLen; omega
      case c4A => omega
      case c5A => simp; omega
      intro v2 w5 os5 hg2 _
      obtain ⟨g2, cap2, rfl⟩ := own_succ os5
      have hne2 : some (w.heap.size + 1) ≠ vs.ownBlock := fun e => by have := (os3.lt _ e.symm).1; omega
      have hs2 : w2.heap.size + 1 ≤ w5.heap.size := by have := hg2.size; simpa using this
      have hp5 : PBox w5 (w.heap.size + 1) (.slice (some ⟨g1, 0, none⟩) (k + 1) cap1) n vs := ((HP2.out.code _).alloc (by simp; omega) _).grown hg2 (by simp; omega) hne2
      have oc5 := (oc3.alloc _).kept hg2 (own_apart (by decide) oc3 os3)
      have hob5 : ∀ b ∈ bs ++ [wr.heap.size], OB w5 b ∧ w.heap.size + 2 ≤ b := fun b hb => by
        obtain ⟨h2, h3⟩ := HO3.out b hb
        have h4 := h2.lt
        refine ⟨(hg2.block b (by simp at h4 ⊢; omega) (h2.ne' os3)).trans ?_, h3⟩
        rw [Below.heap_alloc _ _ _ h4]
        exact h2
      have hb5 : Below (w.heap.size + 1) (w.alloc (.cells #[.slice none 0 0, .int .i64 0, .slice none 0 0, .slice none 0 0] 31)) w5 := ((hb2.setCell (p := ⟨w.heap.size + 1, 0, none⟩) (Nat.le_refl _) _).alloc (by simp; omega) _).grown hg2 (by simp; omega) (fun j hj => by have := (os3.lt j hj).1; omega)
      clear HP2 c0 c2 f0 f2 os3 oc3 hg2 hb2
      have HP5 : Hid (PBox w5 (w.heap.size + 1) (.slice (some ⟨g1, 0, none⟩) (k + 1) cap1) n vs) := hp5
      obtain ⟨c0, c1, c2, c3, f0, f2⟩ := hp5
      clear c0 c1 c3 f0
      have os6 := ownsRow_setCell_below os5 (a := ⟨w.heap.size + 1, 2, none⟩) (show w.heap.size + 1 < w.heap.size + 2 by omega) (.slice (some ⟨g2, 0, none⟩) (k + 1) cap2)
      have oc6 := ownsRow_setCell_below oc5 (a := ⟨w.heap.size + 1, 2, none⟩) (show w.heap.size + 1 < w.heap.size + 2 by omega) (.slice (some ⟨g2, 0, none⟩) (k + 1) cap2)
      have HO6 : Hid (∀ b ∈ bs ++ [wr.heap.size], OB (w5.setCell ⟨w.heap.size + 1, 2, none⟩ (.slice (some ⟨g2, 0, none⟩) (k + 1) cap2)) b ∧ w.heap.size + 2 ≤ b) := fun b hb => by
        obtain ⟨h2, h3⟩ := hob5 b hb
        exact ⟨(Below.heap_setCell _ _ _ _ (show b ≠ w.heap.size + 1 by omega)).trans h2, h3⟩
      clear os5 oc5 hob5
      have hlt5 : w.heap.size + 1 < w5.heap.size := by omega
      go_wp2
      go_roundw
      case rel => exact ⟨k + 1, _, _, bs ++ [wr.heap.size], by rw [List.length_append, HBL.out]; rfl, HO6.out, by omega, by go_num, HP5.out.spans _, by rw [List.map_append]; exact oc6, by rw [ones_succ, spCells_snoc]; exact os6, by simp; omega, hb5.setCell (p := ⟨w.heap.size + 1, 2, none⟩) (Nat.le_refl _) _⟩
      case measure => simp [intOf]; omega
    · obtain rfl : k = n := by omega
      have hbw : Below w.heap.size w wr := ((Below.refl _ w).alloc (Nat.le_refl _) _).trans (hb.mono (by omega))
      have r0 : wr.cell? ⟨w.heap.size, 0, none⟩ = some (.slice none 0 0) := (hb.cell (p := ⟨w.heap.size, 0, none⟩) (by simp)).trans (by simp)
      have r1 : wr.cell? ⟨w.heap.size, 1, none⟩ = some (.int .i64 0) := (hb.cell (p := ⟨w.heap.size, 1, none⟩) (by simp)).trans (by simp)
      have r2 : wr.cell? ⟨w.heap.size, 2, none⟩ = some (.slice none 0 0) := (hb.cell (p := ⟨w.heap.size, 2, none⟩) (by simp)).trans (by simp)
      have r3 : wr.cell? ⟨w.heap.size, 3, none⟩ = some (.slice none 0 0) := (hb.cell (p := ⟨w.heap.size, 3, none⟩) (by simp)).trans (by simp)
      have g0 : wr.frozen? ⟨w.heap.size, 0, none⟩ = false := (hb.frozen (p := ⟨w.heap.size, 0, none⟩) (by simp)).trans (by simp)
      have g1 : wr.frozen? ⟨w.heap.size, 1, none⟩ = false := (hb.frozen (p := ⟨w.heap.size, 1, none⟩) (by simp)).trans (by simp)
      have g2 : wr.frozen? ⟨w.heap.size, 2, none⟩ = false := (hb.frozen (p := ⟨w.heap.size, 2, none⟩) (by simp)).trans (by simp)
      have g3 : wr.frozen? ⟨w.heap.size, 3, none⟩ = false := (hb.frozen (p := ⟨w.heap.size, 3, none⟩) (by simp)).trans (by simp)
      have os7 := ownsRow_setCell_below (ownsRow_setCell_below (ownsRow_setCell_below (ownsRow_setCell_below os (a := ⟨w.heap.size, 0, none⟩) (show w.heap.size < w.heap.size + 2 by omega) vc) (a := ⟨w.heap.size, 1, none⟩) (show w.heap.size < w.heap.size + 2 by omega) (.int .i64 k)) (a := ⟨w.heap.size, 2, none⟩) (show w.heap.size < w.heap.size + 2 by omega) vs) (a := ⟨w.heap.size, 3, none⟩) (show w.heap.size < w.heap.size + 2 by omega) (.slice none 0 0)
      have oc7 := ownsRow_setCell_below (ownsRow_setCell_below (ownsRow_setCell_below (ownsRow_setCell_below oc (a := ⟨w.heap.size, 0, none⟩) (show w.heap.size < w.heap.size + 2 by omega) vc) (a := ⟨w.heap.size, 1, none⟩) (show w.heap.size < w.heap.size + 2 by omega) (.int .i64 k)) (a := ⟨w.heap.size, 2, none⟩) (show w.heap.size < w.heap.size + 2 by omega) vs) (a := ⟨w.heap.size, 3, none⟩) (show w.heap.size < w.heap.size + 2 by omega) (.slice none 0 0)
      have hsp := sps_of_own (l := ones k) (by rw [ones_len]; exact os7)
      have hob7 : ∀ b ∈ bs, OB ((((wr.setCell ⟨w.heap.size, 0, none⟩ vc).setCell ⟨w.heap.size, 1, none⟩ (.int .i64 k)).setCell ⟨w.heap.size, 2, none⟩ vs).setCell ⟨w.heap.size, 3, none⟩ (.slice none 0 0)) b := fun b hb => by
        obtain ⟨h2, h3⟩ := HOB.out b hb
        show (((((wr.setCell ⟨w.heap.size, 0, none⟩ vc).setCell ⟨w.heap.size, 1, none⟩ (.int .i64 k)).setCell ⟨w.heap.size, 2, none⟩ vs).setCell ⟨w.heap.size, 3, none⟩ (.slice none 0 0))).heap[b]? = _
        rw [Below.heap_setCell _ _ _ _ (show b ≠ w.heap.size by omega), Below.heap_setCell _ _ _ _ (show b ≠ w.heap.size by omega), Below.heap_setCell _ _ _ _ (show b ≠ w.heap.size by omega), Below.heap_setCell _ _ _ _ (show b ≠ w.heap.size by omega)]
        exact h2
      have HS : Hid (Pln ((((wr.setCell ⟨w.heap.size, 0, none⟩ vc).setCell ⟨w.heap.size, 1, none⟩ (.int .i64 k)).setCell ⟨w.heap.size, 2, none⟩ vs).setCell ⟨w.heap.size, 3, none⟩ (.slice none 0 0)) vc vs (.slice none 0 0) (cntP k)) := ⟨cds_own (base := w.heap.size + 2) (by rw [HBL.out]; exact oc7) hob7 HBL.out, hsp, Or.inl ⟨rfl, _, _, rfl⟩⟩
      obtain ⟨q1, q2, q3, rfl⟩ := own_form oc
      obtain ⟨q4, q5, q6, rfl⟩ := own_form os
      clear os7 oc7 hsp hob7 oc os HP
      go_wp2
      refine bodyPost_ret (v := .agg #[.slice q1 q2 q3, .int .i64 k, .slice q4 q5 q6, .slice none 0 0]) ?_ rfl ⟨_, _, rfl, HS.out, ?_⟩
      · simp [results, Tryd.results17, go_sem, r0, r1, r2, r3]
      · repeat' first | exact hbw | refine Below.setCell ?_ (by simp) _
end Go.Proofs.YtfconbblnmbnpadDoor
namespace Go.Proofs.YtfconbblnmbnpadDoor
open Go.RowKit

/-- Numbers of rooms and turns that the law passes by. -/
def outC (n m : Int) : Bool := decide (n < 1) || decide (5 < n) || decide (m < 0) || decide (40 < m)
theorem outC_false {n m : Int} (h : outC n m = false) : 1 ≤ n ∧ n ≤ 5 ∧ 0 ≤ m ∧ m ≤ 40 := by
  unfold outC at h
  simp only [Bool.or_eq_false_iff, decide_eq_false_iff_not] at h
  omega
theorem mul_le {n m : Nat} (hn : n ≤ 5) (hm : m ≤ 40) : 2 * n * m ≤ 400 := by
  have := Nat.mul_le_mul (Nat.mul_le_mul (Nat.le_refl 2) hn) hm
  omega
set_option maxRecDepth 1000000 in
set_option maxHeartbeats 8000000 in
theorem kcounts_of {G : World → Prop} (C : KerC G) (CT : KerTime C) (n m : Int) (w : World) (hG : G w) :
    Calls Tryd.prog 5 #[.int .i64 n, .int .i64 m] w fun e w' => e = .returned (.bool true) ∧ Below w.heap.size w w' := by
  have HC : Hid (G w) := hG
  clear hG
  go_enter Tryd.func5, Tryd.ntmps5
  go_upto_region 1 with fail
  go_cut [24] from 11 to 23 (fun s24 wx => s24 = .bool (outC n m) ∧ wx = w)
  case first =>
    by_cases h0 : n < 1
    · have HX : Hid (outC n m = true) := by show _ = _; unfold outC; simp [h0]
      go_wp2_with fail
      go_meet
      case rel => exact ⟨by rw [HX.out], rfl⟩
    have h0' : decide (n < 1) = false := decide_eq_false h0
    by_cases h1 : 5 < n
    · have HX : Hid (outC n m = true) := by show _ = _; unfold outC; simp [h1]
      go_wp2_with fail
      go_meet
      case rel => exact ⟨by rw [HX.out], rfl⟩
    have h1' : decide (5 < n) = false := decide_eq_false h1
    by_cases h2 : m < 0
    · have HX : Hid (outC n m = true) := by show _ = _; unfold outC; simp [h2]
      go_wp2_with fail
      go_meet
      case rel => exact ⟨by rw [HX.out], rfl⟩
    have h2' : decide (m < 0) = false := decide_eq_false h2
    have HX : Hid (outC n m = decide (40 < m)) := by show _ = _; unfold outC; simp [h0', h1', h2']
    go_wp2_with fail
    go_meet
    case rel => exact ⟨by rw [HX.out], rfl⟩
  case rest =>
  obtain ⟨rfl, hwc⟩ := hcut
  rw [hwc]
  clear hwc
  cases hb : outC n m with
  | true =>
    go_wp2
    go_ret
    exact ⟨rfl, Below.refl _ _⟩
  | false =>
    obtain ⟨h1, h2, h3, h4⟩ := outC_false hb
    clear hb
    obtain ⟨nn, rfl⟩ : ∃ k : Nat, n = k := ⟨n.toNat, by omega⟩
    obtain ⟨mm, rfl⟩ : ∃ k : Nat, m = k := ⟨m.toNat, by omega⟩
    have hn0 : 0 < nn := by omega
    have hn6 : nn < 6 := by omega
    have hm40 : mm ≤ 40 := by omega
    obtain ⟨N, hN⟩ : ∃ N, N = 2 * nn * mm := ⟨_, rfl⟩
    have HN : Hid (N = 2 * nn * mm) := hN
    have hN4 : N ≤ 400 := by rw [hN]; exact mul_le (by omega) hm40
    have hmul : 2 * (nn : Int) * (mm : Int) = (N : Int) := by rw [hN]; simp
    clear hN
    have hc := counting_plan nn w (by omega)
    have HNew : Hid (∀ vc vs W, Below w.heap.size w W → Pln W vc vs (.slice none 0 0) (cntP nn) → Calls Tryd.prog 10 #[plV vc nn vs (.slice none 0 0)] W fun e w' => ∃ kb F, e = .returned (.tuple #[.pointer (some ⟨kb, 0, none⟩), .nilIface]) ∧ C.K W w' (cntP nn) vc vs (.slice none 0 0) (cntK nn 0) kb F) := fun vc vs W hb hP => by
      have := C.new (cntP nn) vc vs (.slice none 0 0) W (C.all w W HC.out hb) hP (cntP_ok nn hn6 hn0)
      rw [cntK_new] at this
      exact this
    unfold plV at hc HNew
    go_upto_region 6 with (first
      | (go_at_call 17; refine hc.mono ?_; rintro e w1 ⟨vc, vs, rfl, hP, b1⟩; clear hc; have q1 := HNew.out vc vs w1 b1 hP; clear hP)
      | (go_at_call 10; refine q1.mono ?_; rintro e w2 ⟨kb, F, rfl, hK⟩; clear q1))
    have HG1 : Hid (G w1) := C.all w w1 HC.out b1
    go_wp2
    go_loopw [7] (fun i wr => ∃ (t : Nat) (F : List Nat), t ≤ N ∧ i = .int .i64 t ∧ C.K w1 wr (cntP nn) vc vs (.slice none 0 0) (cntK nn t) kb F) (fun i _ => N - (intOf i).toNat)
    case atStart => exact ⟨0, F, Nat.zero_le _, rfl, hK⟩
    case round =>
    clear hK
    obtain ⟨t, F1, ht, rfl, hK⟩ := hrel
    by_cases htN : t < N
    · have hti : (t : Int) < (N : Int) := by omega
      have HTk : Hid (Calls Tryd.prog 11 #[.pointer (some ⟨kb, 0, none⟩)] wr fun e w' => ∃ ev F', e = .returned ev ∧ C.K w1 w' (cntP nn) vc vs (.slice none 0 0) (cntK nn (t + 1)) kb F') := (C.tick HG1.out hK (cntP_ok nn hn6 hn0) (cntK_ok hn0 hn6 t) (by show (t : Int) < 100000000; omega)).mono (by
        rintro e w' ⟨rfl, F', h1, _, _⟩
        rw [cntK_tick hn0 hn6] at h1
        exact ⟨_, F', rfl, h1⟩)
      clear hK
      go_wp2_with (go_at_call 11; refine HTk.out.mono ?_; rintro e w3 ⟨ev, F', rfl, hK'⟩; clear HTk)
      go_roundw
      case rel => exact ⟨t + 1, F', by omega, by go_num, hK'⟩
      case measure => simp [intOf]; omega
    obtain rfl : t = N := by omega
    have hti : decide ((t : Int) < (t : Int)) = false := decide_eq_false (by omega)
    have htn : decide (t < t) = false := decide_eq_false (by omega)
    go_wp2
    rename World => wo
    go_loopw [8] (fun i wr => ∃ (r : Nat), r ≤ nn ∧ i = .int .i64 r ∧ C.K w1 wr (cntP nn) vc vs (.slice none 0 0) (cntK nn t) kb F1) (fun i _ => nn - (intOf i).toNat)
    case atStart => exact ⟨0, Nat.zero_le _, rfl, hK⟩
    case round =>
    clear hK
    obtain ⟨r, hr, rfl, hK⟩ := hrel
    have hbw : Below w.heap.size w wr := b1.trans ((C.since hK).mono b1.size)
    by_cases hrn : r < nn
    · have hri : (r : Int) < (nn : Int) := by omega
      have HSt : Hid (Calls Tryd.prog 12 #[.pointer (some ⟨kb, 0, none⟩), .int .i64 r] wr fun e w' => (∃ x1 x2 x3 x4 x5 : Int, e = .returned (.tuple #[.agg #[.int .i64 0, .int .i64 mm, .int .i64 x1, .int .i64 x2, .int .i64 x3, .int .i64 x4, .int .i64 x5, .bool false], .nilIface])) ∧ C.K w1 w' (cntP nn) vc vs (.slice none 0 0) (cntK nn t) kb F1) := (C.state (r : Int) hK (cntK_ok hn0 hn6 t) (cntP_ok nn hn6 hn0)).mono (by
        rintro e w' ⟨rfl, hb⟩
        have hl : (cntK nn t).rooms.length = nn := by simp [cntK]
        have hno : noRoom (cntK nn t) (r : Int) = false := by unfold noRoom; rw [hl]; simp [hrn]
        have hrm : roomK (cntK nn t) (r : Int) = cntS (2 * mm) := by
          unfold roomK
          rw [hno, if_neg (by decide), Int.toNat_natCast]
          simp only [List.getD, cntK_room hrn, Option.getD_some]
          rw [HN.out, cntT_whole hn0 hrn]
        obtain ⟨e1, e2⟩ := cntS_whole hm40
        refine ⟨⟨(cntS (2 * mm)).c 1, (cntS (2 * mm)).c 2, (cntS (2 * mm)).c 3, (cntS (2 * mm)).c 4, (cntS (2 * mm)).c 5, ?_⟩, C.frame hK (KTouch.of (M := []) hb) (by simp)⟩
        rw [hno, hrm]
        unfold stA
        rw [e1, e2]
        rfl)
      clear hK hbw
      go_wp2_with (go_at_call 12; refine HSt.out.mono ?_; rintro e w3 ⟨⟨x1, x2, x3, x4, x5, rfl⟩, hK'⟩; clear HSt)
      go_roundw
      case rel => exact ⟨r + 1, by omega, by go_num, C.frame hK' (KTouch.of (M := []) ((Below.refl _ w3).alloc (Nat.le_refl _) _)) (by simp)⟩
      case measure => simp [intOf]; omega
    have hri : decide ((r : Int) < (nn : Int)) = false := decide_eq_false (by omega)
    have hrn' : decide (r < nn) = false := decide_eq_false (by omega)
    have HT : Hid (Calls Tryd.prog 13 #[.pointer (some ⟨kb, 0, none⟩)] wr fun e w' => e = .returned (.int .i64 t) ∧ Below w.heap.size w w') := (CT hK).mono (by
      rintro e w' ⟨rfl, q, rfl⟩
      exact ⟨rfl, below_dN hbw q⟩)
    clear hK hbw
    go_wp2_with (go_at_call 13; refine HT.out.mono ?_; rintro e w3 ⟨rfl, hb3⟩; clear HT)
    go_ret
    exact ⟨rfl, hb3⟩
end Go.Proofs.YtfconbblnmbnpadDoor

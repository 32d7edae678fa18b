/-
  The document's Frame (frameref1): which span is wrong, and how.
-/
import Derived.Test.YtajfgmlockjmhaiGreatDoorJk1
import Derived.Deep.QuietTactic
import Derived.BigQuiet
import Derived.WalkSmall
namespace Go.Proofs.YtajfgmlockjmhaiGreatDoor
open Go.RowKit

set_option maxRecDepth 100000 in
set_option maxHeartbeats 1000000 in
theorem refframe_ticks (n : Int) (v : Value) (w : World) (h : n < 1 ∨ 40 < n) :
    Calls Tryz.prog 54 #[.int .i64 n, v] w fun e w' => e = .returned (.tuple #[.int .i64 0, .int .i64 1]) ∧ Below w.heap.size w w' := by
  by_cases h1 : n < 1
  · go_enter Tryz.func54, Tryz.ntmps54
    go_wp2
    go_ret2
    exact ⟨rfl, Below.refl _ _⟩
  · have h1' : decide (n < 1) = false := by simpa using h1
    have h2 : 40 < n := by omega
    go_enter Tryz.func54, Tryz.ntmps54
    go_wp2
    go_ret2
    exact ⟨rfl, Below.refl _ _⟩
set_option maxRecDepth 100000 in
set_option maxHeartbeats 1000000 in
theorem refframe_long (n : Int) (ao : Option Addr) (m cap : Nat) (w : World) (h1 : ¬ n < 1) (h2 : ¬ 40 < n) (hm : 12 < m) :
    Calls Tryz.prog 54 #[.int .i64 n, .slice ao m cap] w fun e w' => e = .returned (.tuple #[.int .i64 0, .int .i64 4]) ∧ Below w.heap.size w w' := by
  have h1' : decide (n < 1) = false := by simpa using h1
  have h2' : decide (40 < n) = false := by simpa using h2
  go_enter Tryz.func54, Tryz.ntmps54
  go_wp2
  go_ret2
  exact ⟨rfl, Below.refl _ _⟩
set_option maxRecDepth 100000 in
set_option maxHeartbeats 1000000 in
theorem refframe_nil (n : Int) (ao : Option Addr) (cap : Nat) (w : World) (h1 : ¬ n < 1) (h2 : ¬ 40 < n) :
    Calls Tryz.prog 54 #[.int .i64 n, .slice ao 0 cap] w fun e w' => e = .returned (.tuple #[.int .i64 0, .int .i64 0]) ∧ Below w.heap.size w w' := by
  have h1' : decide (n < 1) = false := by simpa using h1
  have h2' : decide (40 < n) = false := by simpa using h2
  go_enter Tryz.func54, Tryz.ntmps54
  go_wp2
  refine wp_loop_rounds 1 ?_
  rw [rounds_succ]
  go_wp2
  go_ret2
  exact ⟨rfl, Below.refl _ _⟩
theorem any_take {α : Type} {p : α → Bool} {l : List α} {k : Nat} {o : α} (h : l[k]? = some o) : (l.take (k + 1)).any p = ((l.take k).any p || p o) := by
  obtain ⟨hk, rfl⟩ := List.getElem?_eq_some_iff.1 h
  rw [List.take_succ_eq_append_getElem hk, List.any_append]
  simp
theorem ret_two_f {a b c d : Int} (h : (a, b) = (c, d)) : Ending.returned (.tuple #[.int .i64 c, .int .i64 d]) = .returned (.tuple #[.int .i64 a, .int .i64 b]) := by
  simp only [Prod.mk.injEq] at h
  rw [h.1, h.2]

set_option maxRecDepth 1000000 in
set_option maxHeartbeats 8000000 in
theorem refframe_mid (n : Int) (l : List S3) (b off cap : Nat) (w : World) (h1 : ¬ n < 1) (h2 : ¬ 40 < n) (hl : ¬ 12 < l.length) (hlt : b < w.heap.size) (hc : SpC w b off l) :
    Calls Tryz.prog 54 #[.int .i64 n, .slice (some ⟨b, off, none⟩) l.length cap] w fun e w' => e = .returned (.tuple #[.int .i64 (scan (badAt n l) l.length 0).1, .int .i64 (scan (badAt n l) l.length 0).2]) ∧ Below w.heap.size w w' := by
  have h1' : decide (n < 1) = false := by simpa using h1
  have h2' : decide (40 < n) = false := by simpa using h2
  have h3' : decide (12 < l.length) = false := by simpa using hl
  obtain ⟨R, hR⟩ : ∃ R, R = scan (badAt n l) l.length 0 := ⟨_, rfl⟩
  rw [← hR]
  have HR : Hid (R = scan (badAt n l) l.length 0) := hR
  clear hR
  go_enter Tryz.func54, Tryz.ntmps54
  go_wp2
  go_loopw [6] (fun i wr => ∃ k : Nat, k ≤ l.length ∧ i = .int .i64 k ∧ Hid (scan (badAt n l) l.length 0 = scan (badAt n l) (l.length - k) k) ∧ Below w.heap.size w wr) (fun i _ => l.length - (intOf i).toNat)
  case atStart => exact ⟨0, Nat.zero_le _, rfl, rfl, Below.refl _ _⟩
  case round =>
    rename World => wo
    obtain ⟨k, hk, rfl, HS, hb⟩ := hrel
    by_cases hkl : k < l.length
    · obtain ⟨o, ho⟩ : ∃ o, l[k]? = some o := ⟨l[k], List.getElem?_eq_getElem hkl⟩
      have HO : Hid (l[k]? = some o) := ho
      obtain ⟨c0, c1, c2⟩ := hc.below hb hlt k o ho
      clear ho
      have hki : (k : Int) < (l.length : Int) := by omega
      have bA : Below wo.heap.size wo (wo.alloc (.cells #[.int .i64 o.1, .int .i64 o.2.1, .int .i64 o.2.2] 82)) := (Below.refl _ _).alloc (Nat.le_refl _) _
      have hbA := hb.trans (bA.mono hb.size)
      by_cases hok : spOk n o = true
      · have HK : Hid (spOk n o = true) := hok
        have hok2 : 0 ≤ o.1 ∧ o.1 < o.2.1 ∧ o.2.1 ≤ n ∧ 0 ≤ o.2.2 ∧ o.2.2 < 5 := by simpa [spOk] using hok
        obtain ⟨p1, p2, p3, p4, p5⟩ := hok2
        have q1 : decide (o.1 < 0) = false := by simp; omega
        have q2 : decide (o.2.1 ≤ o.1) = false := by simp; omega
        have q3 : decide (n < o.2.1) = false := by simp; omega
        have q4 : decide (o.2.2 < 0) = false := by simp; omega
        have q5 : decide (4 < o.2.2) = false := by simp; omega
        clear hok p1 p2 p3 p4 p5
        go_wp2
        have HB : Hid (Below wo.heap.size wo (wo.alloc (.cells #[.int .i64 o.1, .int .i64 o.2.1, .int .i64 o.2.2] 82))) := bA
        have HC : Hid (SpC wo b off l) := hc.below hb hlt
        have hlt' : b < wo.heap.size := Nat.lt_of_lt_of_le hlt hb.size
        clear c0 c1 c2 bA q1 q2 q3 q4 q5
        go_loopw [8] (fun i wx => ∃ j : Nat, j ≤ k ∧ i = .int .i64 j ∧ Hid ((l.take j).any (clashB o) = false) ∧ Below (wo.heap.size + 1) (wo.alloc (.cells #[.int .i64 o.1, .int .i64 o.2.1, .int .i64 o.2.2] 82)) wx) (fun i _ => k - (intOf i).toNat)
        case atStart => exact ⟨0, Nat.zero_le _, rfl, by show _ = _; simp, Below.refl _ _⟩
        case round =>
          obtain ⟨j, hj, rfl, HJ, hx⟩ := hrel
          have hbx : Below w.heap.size w wr := hbA.trans (hx.mono (by have := hb.size; omega))
          by_cases hjk : j < k
          · obtain ⟨p, hp⟩ : ∃ p, l[j]? = some p := ⟨l[j]'(by omega), List.getElem?_eq_getElem (by omega)⟩
            have HP : Hid (l[j]? = some p) := hp
            obtain ⟨c0, c1, c2⟩ := ((HC.out.below HB.out hlt').below hx (by omega)) j p hp
            clear hp
            have k0 : wr.cell? ⟨wo.heap.size, 0, none⟩ = some (.int .i64 o.1) := (hx.cell (p := ⟨wo.heap.size, 0, none⟩) (by simp)).trans (by simp)
            have k1 : wr.cell? ⟨wo.heap.size, 1, none⟩ = some (.int .i64 o.2.1) := (hx.cell (p := ⟨wo.heap.size, 1, none⟩) (by simp)).trans (by simp)
            have hji : (j : Int) < (k : Int) := by omega
            have hjl : (j : Int) < (l.length : Int) := by omega
            by_cases g1 : p.1 < o.2.1
            · have g1' : decide (p.1 < o.2.1) = true := by simpa using g1
              by_cases g2 : o.1 < p.2.1
              · have g2' : decide (o.1 < p.2.1) = true := by simpa using g2
                have HF : Hid (R = ((k : Int), 7)) := by
                  have han : (l.take k).any (clashB o) = true := by
                    rw [List.any_eq_true]
                    exact ⟨p, List.mem_take_iff_getElem.2 ⟨j, by omega, (List.getElem?_eq_some_iff.1 HP.out).2⟩, by simp [clashB, g1, g2]⟩
                  have e := badOf_clash HK.out han
                  show _ = _
                  rw [HR.out, scan_hit hkl HS.out (by rw [badAt_some HO.out, e]; decide), badAt_some HO.out, e]
                clear HJ
                go_wp2
                go_quiet (fail)
                go_wp2
                go_ret2
                rw [HF.out]
                exact ⟨rfl, below_drewN hbx _⟩
              · have g2' : decide (o.1 < p.2.1) = false := by simpa using g2
                have HF : Hid ((l.take (j + 1)).any (clashB o) = false) := by
                  show _ = _
                  rw [any_take HP.out, HJ.out]
                  simp [clashB, g2]
                clear HJ
                go_wp2
                go_quiet (fail)
                go_wp2
                go_roundw
                case rel => exact ⟨j + 1, by omega, by go_num, HF.out, below_drewN hx _⟩
                case measure => simp [intOf]; omega
            · have g1' : decide (p.1 < o.2.1) = false := by simpa using g1
              have HF : Hid ((l.take (j + 1)).any (clashB o) = false) := by
                show _ = _
                rw [any_take HP.out, HJ.out]
                simp [clashB, g1]
              clear HJ
              go_wp2
              go_quiet (fail)
              go_wp2
              go_roundw
              case rel => exact ⟨j + 1, by omega, by go_num, HF.out, below_drewN hx _⟩
              case measure => simp [intOf]; omega
          · obtain rfl : j = k := by omega
            have HF : Hid (scan (badAt n l) l.length 0 = scan (badAt n l) (l.length - (j + 1)) (j + 1)) := by
              show _ = _
              exact scan_next hkl HS.out (by rw [badAt_some HO.out]; exact badOf_none HK.out HJ.out)
            clear HS HJ
            go_wp2
            go_roundw
            case rel => exact ⟨j + 1, by omega, by go_num, HF.out, hbx⟩
            case measure => simp [intOf]; omega
      · have hok' : spOk n o = false := by simpa using hok
        have HF : Hid (R = ((k : Int), 1)) := by
          have e := badOf_range (l := l.take k) hok'
          show _ = _
          rw [HR.out, scan_hit hkl HS.out (by rw [badAt_some HO.out, e]; decide), badAt_some HO.out, e]
        have hno : ¬ (0 ≤ o.1 ∧ o.1 < o.2.1 ∧ o.2.1 ≤ n ∧ 0 ≤ o.2.2 ∧ o.2.2 < 5) := by simpa [spOk] using hok
        clear hok hok' HS HR
        by_cases p1 : o.1 < 0
        · go_wp2
          go_ret2
          rw [HF.out]
          exact ⟨rfl, hbA⟩
        have q1 : decide (o.1 < 0) = false := by simpa using p1
        by_cases p2 : o.2.1 ≤ o.1
        · go_wp2
          go_ret2
          rw [HF.out]
          exact ⟨rfl, hbA⟩
        have q2 : decide (o.2.1 ≤ o.1) = false := by simpa using p2
        by_cases p3 : n < o.2.1
        · go_wp2
          go_ret2
          rw [HF.out]
          exact ⟨rfl, hbA⟩
        have q3 : decide (n < o.2.1) = false := by simpa using p3
        by_cases p4 : o.2.2 < 0
        · go_wp2
          go_ret2
          rw [HF.out]
          exact ⟨rfl, hbA⟩
        have q4 : decide (o.2.2 < 0) = false := by simpa using p4
        have p5 : 4 < o.2.2 := by omega
        go_wp2
        go_ret2
        rw [HF.out]
        exact ⟨rfl, hbA⟩
    · obtain rfl : k = l.length := by omega
      have HF : Hid (R = (0, 0)) := by
        show _ = _
        rw [HR.out]
        exact scan_end HS.out
      clear HS
      go_wp2
      go_ret2
      rw [HF.out]
      exact ⟨rfl, hb⟩
theorem refframe_any (n : Int) (l : List S3) (v : Value) (w : World) (hl : Sps w v l) :
    Calls Tryz.prog 54 #[.int .i64 n, v] w fun e w' => e = .returned (.tuple #[.int .i64 (fchk n l).1, .int .i64 (fchk n l).2]) ∧ Below w.heap.size w w' := by
  by_cases h1 : n < 1 ∨ 40 < n
  · rw [fchk_lo h1]
    exact refframe_ticks n v w h1
  rcases hl with ⟨rfl, ao, cap, rfl⟩ | ⟨b, off, cap, rfl, hcap, hlt, hc⟩
  · rw [fchk_mid h1 (by simp)]
    exact refframe_nil n ao cap w (by omega) (by omega)
  · by_cases h2 : 12 < l.length
    · rw [fchk_long h1 h2]
      exact refframe_long n _ _ cap w (by omega) (by omega) h2
    · rw [fchk_mid h1 h2]
      exact refframe_mid n l b off cap w (by omega) (by omega) h2 hlt hc
end Go.Proofs.YtajfgmlockjmhaiGreatDoor

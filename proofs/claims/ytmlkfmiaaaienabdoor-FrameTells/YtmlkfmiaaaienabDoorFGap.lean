/-
  frame.Gap: the widest way from one tick of a room to its next one.
-/
import Derived.Test.YtmlkfmiaaaienabDoorFWho
import Derived.Deep.RegionWith
namespace Go.Proofs.YtmlkfmiaaaienabDoor
open Go.RowKit

set_option maxRecDepth 100000 in
set_option maxHeartbeats 1000000 in
theorem had_any (l : List S3) (v : Value) (t r : Int) (lb rb : Nat) (w : World) (hl : Sps w v l) (hlen : l.length ≤ 12) (h1 : w.cell? ⟨lb, 0, none⟩ = some v) (h2 : w.cell? ⟨rb, 0, none⟩ = some (.int .i64 r)) :
    Calls Tryd.prog 28 #[.int .i64 t, .pointer (some ⟨lb, 0, none⟩), .pointer (some ⟨rb, 0, none⟩)] w fun e w' => e = .returned (.bool (decide (hold l t = r))) ∧ Below w.heap.size w w' := by
  have hlt2 := ltc h2
  have hh := holder_any l v t w.drew (hl.all (Below.refl _ _).drew) hlen
  obtain ⟨ao, cap, rfl⟩ := hl.form
  obtain ⟨q, hq⟩ : ∃ q, q = hold l t := ⟨_, rfl⟩
  rw [← hq] at hh ⊢
  clear hq hl
  go_enter Tryd.func28, Tryd.ntmps28
  go_wp2
  go_region_with (go_at_call 25; refine hh.mono ?_; rintro e w1 ⟨rfl, b1⟩; have h3 : w1.cell? ⟨rb, 0, none⟩ = some (.int .i64 r) := (b1.cell (p := ⟨rb, 0, none⟩) hlt2).trans h2)
  all_goals (try go_wp2)
  all_goals go_ret
  all_goals exact ⟨retB (by rw [Bool.eq_iff_iff]; simp), ((Below.refl _ w).drew).trans b1⟩

set_option maxRecDepth 100000 in
set_option maxHeartbeats 4000000 in
theorem widest_any (n : Nat) (l : List S3) (v : Value) (r : Int) (lb rb : Nat) (w : World) (hl : Sps w v l) (hlen : l.length ≤ 12) (hn0 : 1 ≤ n) (hn1 : n ≤ 40) (h1 : w.cell? ⟨lb, 0, none⟩ = some v) (h2 : w.cell? ⟨rb, 0, none⟩ = some (.int .i64 r)) :
    Calls Tryd.prog 27 #[.int .i64 n, .func (.func 28) #[] #[.pointer (some ⟨lb, 0, none⟩), .pointer (some ⟨rb, 0, none⟩)]] w fun e w' => e = .returned (.int .i64 (gap (had l n r) n)) ∧ Below w.heap.size w w' := by
  have hlt1 := ltc h1
  have hlt2 := ltc h2
  have HH : Hid (∀ (t : Int) W, Below w.heap.size w W → Calls Tryd.prog 28 #[.int .i64 t, .pointer (some ⟨lb, 0, none⟩), .pointer (some ⟨rb, 0, none⟩)] W fun e w' => e = .returned (.bool (decide (hold l t = r))) ∧ Below W.heap.size W w') := fun t W hb => had_any l v t r lb rb W (hl.all hb) hlen ((hb.cell (p := ⟨lb, 0, none⟩) hlt1).trans h1) ((hb.cell (p := ⟨rb, 0, none⟩) hlt2).trans h2)
  clear hl h1 h2
  have hnz : ¬ ((n : Int) = 0) := by omega
  go_enter Tryd.func27, Tryd.ntmps27
  go_wp2
  go_loopw [5, 6, 10] (fun m a i wr => ∃ t : Nat, t ≤ 2 * n ∧ m = .int .i64 (gf (had l n r) t).1 ∧ a = .int .i64 (gf (had l n r) t).2 ∧ i = .int .i64 t ∧ Below w.heap.size w wr) (fun _ _ i _ => 2 * n - (intOf i).toNat)
  case atStart => exact ⟨0, Nat.zero_le _, rfl, rfl, rfl, Below.refl _ _⟩
  case round =>
    obtain ⟨t, ht, rfl, rfl, rfl, hb⟩ := hrel
    have hgb := gf_bound (had l n r) t
    have GH : Hid (∀ (h : had l n r t = true), gf (had l n r) (t + 1) = (if 0 ≤ (gf (had l n r) t).2 then max (gf (had l n r) t).1 ((t : Int) - (gf (had l n r) t).2) else (gf (had l n r) t).1, (t : Int))) := fun h => gf_hit h
    have GM : Hid (∀ (h : had l n r t = false), gf (had l n r) (t + 1) = gf (had l n r) t) := fun h => gf_miss h
    obtain ⟨m, hm⟩ : ∃ m, m = (gf (had l n r) t).1 := ⟨_, rfl⟩
    obtain ⟨a, ha⟩ : ∃ a, a = (gf (had l n r) t).2 := ⟨_, rfl⟩
    rw [← hm, ← ha] at hgb GH
    rw [← hm, ← ha]
    have HM : Hid (m = (gf (had l n r) t).1) := hm
    have HA : Hid (a = (gf (had l n r) t).2) := ha
    clear hm ha
    obtain ⟨g1, g2, g3, g4⟩ := hgb
    by_cases htn : t < 2 * n
    · have hti : (t : Int) < 2 * (n : Int) := by omega
      have hh := HH.out ((t : Int) % (n : Int)) wr hb
      cases hq : had l n r t with
      | false =>
        have hq' : decide (hold l ((t : Int) % (n : Int)) = r) = false := by simpa [had] using hq
        rw [hq'] at hh
        have HQ : Hid (had l n r t = false) := hq
        clear hq hq'
        go_wp2_with (go_at_call 28; refine hh.mono ?_; rintro e w1 ⟨rfl, b1⟩; clear hh)
        go_roundw
        case rel => exact ⟨t + 1, by omega, by rw [GM.out HQ.out, HM.out], by rw [GM.out HQ.out, HA.out], by go_num, hb.trans (b1.mono hb.size)⟩
        case measure => simp [intOf]; omega
      | true =>
        have hq' : decide (hold l ((t : Int) % (n : Int)) = r) = true := by simpa [had] using hq
        rw [hq'] at hh
        have HQ : Hid (gf (had l n r) (t + 1) = (if 0 ≤ a then max m ((t : Int) - a) else m, (t : Int))) := GH.out hq
        clear hq hq' GH
        by_cases ha0 : 0 ≤ a
        · rw [if_pos ha0] at HQ
          go_wp2_with (go_at_call 28; refine hh.mono ?_; rintro e w1 ⟨rfl, b1⟩; clear hh)
          go_roundw
          case rel => exact ⟨t + 1, by omega, by rw [HQ.out]; congr 1; simp only; split <;> omega, by rw [HQ.out], by go_num, hb.trans (b1.mono hb.size)⟩
          case measure => simp [intOf]; omega
        · have ha1 : decide (0 ≤ a) = false := by simpa using ha0
          rw [if_neg ha0] at HQ
          go_wp2_with (go_at_call 28; refine hh.mono ?_; rintro e w1 ⟨rfl, b1⟩; clear hh)
          go_roundw
          case rel => exact ⟨t + 1, by omega, by rw [HQ.out], by rw [HQ.out], by go_num, hb.trans (b1.mono hb.size)⟩
          case measure => simp [intOf]; omega
    · obtain rfl : t = 2 * n := by omega
      go_wp2
      go_ret
      exact ⟨retI (by unfold gap; exact HM.out), hb⟩

/-- The gap of a room; the fault. -/
def gapR (n : Int) (l : List S3) (r : Int) : Int × Int := if (fchk n l).2 = 0 then (if r < 0 ∨ 4 < r then (0, 1) else if gap (had l n.toNat r) n.toNat = 0 then (0, 5) else (gap (had l n.toNat r) n.toNat, 0)) else (0, (fchk n l).2)

set_option maxRecDepth 100000 in
set_option maxHeartbeats 4000000 in
theorem gap_bad (n : Int) (ao : Option Addr) (m cap : Nat) (r k e : Int) (w : World) (he : e ≠ 0)
    (hk : ∀ W, Below w.heap.size w W → Calls Tryd.prog 9 #[.int .i64 n, .slice ao m cap] W fun ev w' => ev = .returned (.tuple #[.int .i64 k, fErr e]) ∧ Below W.heap.size W w') :
    Calls Tryd.prog 15 #[.int .i64 n, .slice ao m cap, .int .i64 r] w fun ev w' => ev = .returned (.tuple #[.int .i64 0, fErr e]) ∧ Below w.heap.size w w' := by
  have b0 : Below w.heap.size w ((w.alloc (.cells #[.slice ao m cap] 34)).alloc (.cells #[.int .i64 r] 3)) := ((Below.refl _ _).alloc (Nat.le_refl _) _).alloc (by simp) _
  have h := hk _ b0
  rw [fErr_not he] at h ⊢
  clear hk
  go_enter Tryd.func15, Tryd.ntmps15
  go_wp2_with (go_at_call 9; refine h.mono ?_; rintro ev w1 ⟨rfl, b1⟩; clear h)
  go_ret2
  exact ⟨rfl, b0.trans (b1.mono b0.size)⟩

set_option maxRecDepth 100000 in
set_option maxHeartbeats 4000000 in
theorem gap_room (n : Int) (ao : Option Addr) (m cap : Nat) (r k : Int) (w : World) (hr : r < 0 ∨ 4 < r)
    (hk : ∀ W, Below w.heap.size w W → Calls Tryd.prog 9 #[.int .i64 n, .slice ao m cap] W fun ev w' => ev = .returned (.tuple #[.int .i64 k, .nilIface]) ∧ Below W.heap.size W w') :
    Calls Tryd.prog 15 #[.int .i64 n, .slice ao m cap, .int .i64 r] w fun ev w' => ev = .returned (.tuple #[.int .i64 0, fErr 1]) ∧ Below w.heap.size w w' := by
  have b0 : Below w.heap.size w ((w.alloc (.cells #[.slice ao m cap] 34)).alloc (.cells #[.int .i64 r] 3)) := ((Below.refl _ _).alloc (Nat.le_refl _) _).alloc (by simp) _
  have h := hk _ b0
  have hi : ∀ W, Calls Tryd.prog 26 #[.int .i64 r] W fun e w' => e = .returned (.bool false) ∧ Below W.heap.size W w' := fun W => by
    have := isRoom_any r W
    rwa [show (decide (0 ≤ r) && decide (r < 5)) = false from by simp; omega] at this
  have HI : Hid (∀ W, Calls Tryd.prog 26 #[.int .i64 r] W fun e w' => e = .returned (.bool false) ∧ Below W.heap.size W w') := hi
  clear hk hi
  go_enter Tryd.func15, Tryd.ntmps15
  go_wp2_with (first | (go_at_call 9; refine h.mono ?_; rintro ev w1 ⟨rfl, b1⟩; clear h; have h2 := HI.out w1; have c1 : w1.cell? ⟨w.heap.size + 1, 0, none⟩ = some (.int .i64 r) := (b1.cell (p := ⟨w.heap.size + 1, 0, none⟩) (by simp)).trans (by simp)) | (go_at_call 26; refine h2.mono ?_; rintro ev w2 ⟨rfl, b2⟩; clear h2))
  go_ret2
  exact ⟨rfl, (b0.trans (b1.mono b0.size)).trans (b2.mono (b0.trans (b1.mono b0.size)).size)⟩
end Go.Proofs.YtmlkfmiaaaienabDoor

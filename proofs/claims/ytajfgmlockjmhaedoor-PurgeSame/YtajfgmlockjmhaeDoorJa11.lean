/-
  GSmall, FHold, FWho, GTake: joined into one text.
-/
import Derived.Test.YtajfgmlockjmhaeDoorJa9
import Derived.Test.YtajfgmlockjmhaeDoorJa10
import Derived.Deep.RegionHeld3
import Derived.Deep.CutRange
import Derived.Deep.RegionWith
import Derived.BigQuiet
import Derived.RangeFuncNested
import Derived.Test.YtajfgmlockjmhaeDoorJa1
import Derived.Test.YtajfgmlockjmhaeDoorFCheck
import Derived.Test.YtajfgmlockjmhaeDoorJa2
namespace Go.Proofs.YtajfgmlockjmhaeDoor
open Go.RowKit

set_option maxRecDepth 100000 in
set_option maxHeartbeats 1000000 in
theorem kbelow_yes (n b : Int) (w : World) (h0 : 0 ≤ n) (h1 : n < b) : Calls Tryd.prog 40 #[.int .i64 n, .int .i64 b] w fun e w' => e = .returned (.bool true) ∧ w' = w := by
  go_enter Tryd.func40, Tryd.ntmps40
  go_wp2
  go_ret
  exact ⟨rfl, rfl⟩
set_option maxRecDepth 100000 in
set_option maxHeartbeats 1000000 in
theorem kbelow_no (n b : Int) (w : World) (h : ¬ (0 ≤ n ∧ n < b)) : Calls Tryd.prog 40 #[.int .i64 n, .int .i64 b] w fun e w' => e = .returned (.bool false) ∧ w' = w := by
  by_cases h0 : 0 ≤ n
  · have h1 : decide (n < b) = false := by simp; omega
    clear h
    go_enter Tryd.func40, Tryd.ntmps40
    go_wp2
    go_ret
    exact ⟨rfl, rfl⟩
  · have h0' : decide (0 ≤ n) = false := by simp; omega
    clear h
    go_enter Tryd.func40, Tryd.ntmps40
    go_wp2
    go_ret
    exact ⟨rfl, rfl⟩
theorem kbelow_any (n b : Int) (w : World) : Calls Tryd.prog 40 #[.int .i64 n, .int .i64 b] w fun e w' => e = .returned (.bool (decide (0 ≤ n) && decide (n < b))) ∧ w' = w := by
  by_cases h : 0 ≤ n ∧ n < b
  · refine (kbelow_yes n b w h.1 h.2).mono ?_
    rintro e w' ⟨rfl, rfl⟩
    simp [h.1, h.2]
  · refine (kbelow_no n b w h).mono ?_
    rintro e w' ⟨rfl, rfl⟩
    refine ⟨?_, rfl⟩
    have : (decide (0 ≤ n) && decide (n < b)) = false := by
      rw [← Bool.decide_and]
      exact decide_eq_false h
    rw [this]
set_option maxRecDepth 100000 in
set_option maxHeartbeats 4000000 in
theorem gstate_any (p : PD) (k : KD) (kb base : Nat) (a : GW) (r : Int) (w : World) (h : GK w base p k kb a) :
    Calls Tryd.prog 23 #[.pointer (some ⟨kb, 0, none⟩), .int .i64 r] w fun e w' => e = .returned (.tuple #[stA (roomK k r), wErr (errB (noRoom k r))]) ∧ Below w.heap.size w w' := by
  have c3 := h.c3
  have hkb := h.lt.1
  by_cases hr : 0 ≤ r ∧ r < (k.rooms.length : Int)
  · obtain ⟨n, rfl⟩ : ∃ n : Nat, r = n := ⟨r.toNat, by omega⟩
    have hn : n < k.rooms.length := by omega
    have hni : (n : Int) < (k.rooms.length : Int) := by omega
    have hno : noRoom k n = false := by
      unfold noRoom
      rw [Bool.or_eq_false_iff]
      exact ⟨decide_eq_false (by omega), decide_eq_false (by omega)⟩
    have hrk : roomK k n = k.rooms[n] := by
      unfold roomK
      rw [if_neg (by rw [hno]; decide), Int.toNat_natCast]
      simp [List.getD, hn]
    have hst := h.rooms n k.rooms[n] (List.getElem?_eq_getElem hn)
    rw [hrk, hno]
    generalize k.rooms[n] = s at hst ⊢
    obtain ⟨s0, s1, s2, s3, s4, s5, s6, s7⟩ := hst
    have hrb := wlt s0
    have hn0 := World.new_ne w ⟨a.rb, n * 8, none⟩ s0
    have hnk := World.new_ne w ⟨kb, 3, none⟩ c3
    clear h hno hrk hr
    go_enter Tryd.func23, Tryd.ntmps23
    go_wp2_with (go_at_call 40; refine (kbelow_yes _ _ _ (by omega) hni).mono ?_; rintro e w1 ⟨rfl, hw1⟩; subst hw1)
    refine bodyPost_ret (v := .tuple #[stA s, wErr (errB false)]) ?_ rfl ⟨rfl, ?_⟩
    · simp [results, Tryd.results23, go_sem, stA, wErr, errB]
    · repeat' first | exact Below.refl _ _ | refine Below.drew ?_ | refine Below.alloc ?_ (by simp <;> omega) _ | refine Below.setCell ?_ (by simp <;> omega) _
  · have hno : noRoom k r = true := by
      unfold noRoom
      rw [Bool.or_eq_true]
      by_cases h0 : r < 0
      · exact Or.inl (decide_eq_true h0)
      · exact Or.inr (decide_eq_true (by omega))
    have hrk : roomK k r = stNew := by
      unfold roomK
      rw [if_pos hno]
    rw [hrk, hno]
    have hnk := World.new_ne w ⟨kb, 3, none⟩ c3
    clear h hno hrk
    go_enter Tryd.func23, Tryd.ntmps23
    go_wp2_with (go_at_call 40; refine (kbelow_no _ _ _ hr).mono ?_; rintro e w1 ⟨rfl, hw1⟩; subst hw1)
    refine bodyPost_ret (v := .tuple #[stA stNew, wErr (errB true)]) ?_ rfl ⟨rfl, ?_⟩
    · simp [results, Tryd.results23, go_sem, stA, stNew, wErr, errB]
    · repeat' first | exact Below.refl _ _ | refine Below.drew ?_ | refine Below.alloc ?_ (by simp <;> omega) _ | refine Below.setCell ?_ (by simp <;> omega) _
end Go.Proofs.YtajfgmlockjmhaeDoor
namespace Go.Proofs.YtajfgmlockjmhaeDoor
open Go.RowKit

set_option maxRecDepth 100000 in
set_option maxHeartbeats 1000000 in
theorem hit_any (s : S3) (tb : Nat) (t : Int) (w : World) (ht : w.cell? ⟨tb, 0, none⟩ = some (.int .i64 t)) :
    Calls Tryd.prog 90 #[.agg #[.int .i64 s.1, .int .i64 s.2.1, .int .i64 s.2.2], .pointer (some ⟨tb, 0, none⟩)] w fun e w' => e = .returned (.bool (hits t s)) ∧ Below w.heap.size w w' := by
  have hlt := ltc ht
  have hn : tb ≠ w.heap.size := by omega
  obtain ⟨a, b, r⟩ := s
  simp only
  by_cases h1 : a ≤ t
  · by_cases h2 : t < b
    · have HF : Hid (hits t (a, b, r) = true) := by show _ = _; simp [hits, h1, h2]
      go_enter Tryd.func90, Tryd.ntmps90
      go_wp2
      go_ret
      exact ⟨retB HF.out.symm, (Below.refl _ _).alloc (Nat.le_refl _) _⟩
    · have h2' : decide (t < b) = false := by simpa using h2
      have HF : Hid (hits t (a, b, r) = false) := by show _ = _; simp [hits, h2]
      go_enter Tryd.func90, Tryd.ntmps90
      go_wp2
      go_ret
      exact ⟨retB HF.out.symm, (Below.refl _ _).alloc (Nat.le_refl _) _⟩
  · have h1' : decide (a ≤ t) = false := by simpa using h1
    have HF : Hid (hits t (a, b, r) = false) := by show _ = _; simp [hits, h1]
    go_enter Tryd.func90, Tryd.ntmps90
    go_wp2
    go_ret
    exact ⟨retB HF.out.symm, (Below.refl _ _).alloc (Nat.le_refl _) _⟩

theorem hidx_some {l : List S3} {t : Int} {k : Nat} (h : l.findIdx? (hits t) = some k) : hidx l t = k := by unfold hidx; rw [h]
theorem hidx_none {l : List S3} {t : Int} (h : l.findIdx? (hits t) = none) : hidx l t = -1 := by unfold hidx; rw [h]

set_option maxRecDepth 100000 in
set_option maxHeartbeats 2000000 in
theorem idxHold (l : List S3) (t : Int) (b off cap tb : Nat) (w : World) (ht : w.cell? ⟨tb, 0, none⟩ = some (.int .i64 t)) (hlen : l.length ≤ 12) (hlt : b < w.heap.size) (hc : SpC w b off l) :
    Calls Tryd.prog 66 #[.slice (some ⟨b, off, none⟩) l.length cap, .func (.func 90) #[] #[.pointer (some ⟨tb, 0, none⟩)]] w fun e w' =>
      e = .returned (.int .i64 (hidx l t)) ∧ Below w.heap.size w w' := by
  have hlt1 := ltc ht
  go_enter Tryd.func66, Tryd.ntmps66
  go_wp2
  go_loopw [8] (fun i wr => ∃ k : Nat, k ≤ l.length ∧ i = .int .i64 k ∧ (∀ (j : Nat) x, j < k → l[j]? = some x → hits t x = false) ∧ Below w.heap.size w wr) (fun i _ => l.length - (intOf i).toNat)
  case atStart => exact ⟨0, Nat.zero_le _, rfl, fun j x hj => by omega, Below.refl _ _⟩
  case round =>
    obtain ⟨k, hk, rfl, hall, hb⟩ := hrel
    have e1 : wr.cell? ⟨tb, 0, none⟩ = some (.int .i64 t) := (hb.cell (p := ⟨tb, 0, none⟩) hlt1).trans ht
    have Hall : Hid (∀ (j : Nat) x, j < k → l[j]? = some x → hits t x = false) := hall
    clear hall
    by_cases hkl : k < l.length
    · obtain ⟨o, ho⟩ : ∃ o, l[k]? = some o := ⟨l[k], List.getElem?_eq_getElem hkl⟩
      have HO : Hid (l[k]? = some o) := ho
      obtain ⟨c0, c1, c2⟩ := hc.below hb hlt k o ho
      clear ho
      have hon := hit_any o tb t wr e1
      clear e1
      cases hok : hits t o with
      | false =>
        have HN : Hid (hits t o = false) := hok
        rw [hok] at hon
        clear hok
        go_wp2_with (go_at_call 90; refine hon.mono ?_; rintro e w1 ⟨rfl, b1⟩; clear hon)
        go_roundw
        case rel =>
          refine ⟨k + 1, by omega, by go_num, fun j x hj hx => ?_, hb.trans (b1.mono hb.size)⟩
          by_cases hjk : j < k
          · exact Hall.out j x hjk hx
          · obtain rfl : j = k := by omega
            rw [HO.out] at hx
            obtain rfl := Option.some.inj hx
            exact HN.out
        case measure => simp [intOf]; omega
      | true =>
        have HF : Hid (l.findIdx? (hits t) = some k) := fidx_hit Hall.out HO.out hok
        rw [hok] at hon
        clear hok
        go_wp2_with (go_at_call 90; refine hon.mono ?_; rintro e w1 ⟨rfl, b1⟩; clear hon)
        go_ret
        exact ⟨retI (hidx_some HF.out).symm, hb.trans (b1.mono hb.size)⟩
    · have HF : Hid (l.findIdx? (hits t) = none) := fidx_miss (fun i x hi hx => Hall.out i x (by omega) hx)
      clear e1
      go_wp2
      go_ret
      exact ⟨retI (hidx_none HF.out).symm, hb⟩
set_option maxRecDepth 100000 in
set_option maxHeartbeats 2000000 in
theorem idxHold_nil (fn : Value) (a : Option Addr) (cap : Nat) (w : World) :
    Calls Tryd.prog 66 #[.slice a 0 cap, fn] w fun e w' => e = .returned (.int .i64 (-1)) ∧ Below w.heap.size w w' := by
  go_enter Tryd.func66, Tryd.ntmps66
  go_wp2
  refine wp_loop_rounds 1 ?_
  rw [rounds_succ]
  go_wp2
  go_ret
  exact ⟨rfl, Below.refl _ _⟩

set_option maxRecDepth 100000 in
set_option maxHeartbeats 2000000 in
theorem holder_nil (a : Option Addr) (cap : Nat) (t : Int) (w : World) :
    Calls Tryd.prog 81 #[.slice a 0 cap, .int .i64 t] w fun e w' => e = .returned (.int .i64 (-1)) ∧ Below w.heap.size w w' := by
  have hI := fun fn W => idxHold_nil fn a cap W
  go_enter Tryd.func81, Tryd.ntmps81
  go_wp2_with (go_at_call 66; refine (hI _ _).mono ?_; rintro e w1 ⟨rfl, b1⟩; clear hI)
  go_ret
  exact ⟨rfl, ((Below.refl _ _).alloc (Nat.le_refl _) _).trans (b1.mono (by simp))⟩
set_option maxRecDepth 100000 in
set_option maxHeartbeats 2000000 in
theorem holder_some (l : List S3) (b off cap : Nat) (t : Int) (w : World) (hlen : l.length ≤ 12) (hlt : b < w.heap.size) (hc : SpC w b off l) :
    Calls Tryd.prog 81 #[.slice (some ⟨b, off, none⟩) l.length cap, .int .i64 t] w fun e w' => e = .returned (.int .i64 (hold l t)) ∧ Below w.heap.size w w' := by
  have b0 : Below w.heap.size w (w.alloc (.cells #[.int .i64 t] 3)) := (Below.refl _ _).alloc (Nat.le_refl _) _
  have hI := idxHold l t b off cap w.heap.size (w.alloc (.cells #[.int .i64 t] 3)) (by simp) hlen (Nat.lt_of_lt_of_le hlt b0.size) (hc.below b0 hlt)
  cases hfi : l.findIdx? (hits t) with
  | none =>
    have HF : Hid (hold l t = -1) := hold_none hfi
    rw [hidx_none hfi] at hI
    clear hfi
    go_enter Tryd.func81, Tryd.ntmps81
    go_wp2_with (go_at_call 66; refine hI.mono ?_; rintro e w1 ⟨rfl, b1⟩; clear hI)
    go_ret
    exact ⟨retI HF.out.symm, b0.trans (b1.mono (by simp))⟩
  | some k =>
    have hk : k < l.length := by
      rw [List.findIdx?_eq_some_iff_getElem] at hfi
      exact hfi.1
    obtain ⟨o, ho⟩ : ∃ o, l[k]? = some o := ⟨l[k], List.getElem?_eq_getElem hk⟩
    have HF : Hid (hold l t = o.2.2) := hold_some hfi ho
    rw [hidx_some hfi] at hI
    obtain ⟨c0, c1, c2⟩ := hc.below b0 hlt k o ho
    have hlt' : b < (w.alloc (.cells #[.int .i64 t] 3)).heap.size := Nat.lt_of_lt_of_le hlt b0.size
    clear hfi ho
    go_enter Tryd.func81, Tryd.ntmps81
    go_wp2_with (go_at_call 66; refine hI.mono ?_; rintro e w1 ⟨rfl, b1⟩; clear hI; have d2 := (b1.cell (p := ⟨b, _, none⟩) hlt').trans c2; clear c0 c1 c2)
    go_ret
    exact ⟨retI HF.out.symm, b0.trans (b1.mono (by simp))⟩
theorem holder_any (l : List S3) (v : Value) (t : Int) (w : World) (hl : Sps w v l) (hlen : l.length ≤ 12) :
    Calls Tryd.prog 81 #[v, .int .i64 t] w fun e w' => e = .returned (.int .i64 (hold l t)) ∧ Below w.heap.size w w' := by
  rcases hl with ⟨rfl, ao, cap, rfl⟩ | ⟨b, off, cap, rfl, _, hlt, hc⟩
  · exact holder_nil ao cap t w
  · exact holder_some l b off cap t w hlen hlt hc
end Go.Proofs.YtajfgmlockjmhaeDoor
namespace Go.Proofs.YtajfgmlockjmhaeDoor
open Go.RowKit

/-- Who has a tick; the fault. -/
def whoR (n : Int) (l : List S3) (t : Int) : Int × Int := if (fchk n l).2 = 0 then (if t < 0 then (0, 1) else (hold l (t % n), 0)) else (0, (fchk n l).2)

set_option maxRecDepth 100000 in
set_option maxHeartbeats 4000000 in
theorem who_bad (n : Int) (v : Value) (t : Int) (k e : Int) (w : World) (he : e ≠ 0)
    (hk : Calls Tryd.prog 27 #[.int .i64 n, v] w fun ev w' => ev = .returned (.tuple #[.int .i64 k, fErr e]) ∧ Below w.heap.size w w') :
    Calls Tryd.prog 61 #[.int .i64 n, v, .int .i64 t] w fun ev w' => ev = .returned (.tuple #[.int .i64 0, fErr e]) ∧ Below w.heap.size w w' := by
  rw [fErr_not he] at hk ⊢
  go_enter Tryd.func61, Tryd.ntmps61
  go_wp2_with (go_at_call 27; refine hk.mono ?_; rintro ev w1 ⟨rfl, b1⟩; clear hk)
  go_ret2
  exact ⟨rfl, b1⟩
set_option maxRecDepth 100000 in
set_option maxHeartbeats 4000000 in
theorem who_neg (n : Int) (v : Value) (t : Int) (k : Int) (w : World) (ht : t < 0)
    (hk : Calls Tryd.prog 27 #[.int .i64 n, v] w fun ev w' => ev = .returned (.tuple #[.int .i64 k, .nilIface]) ∧ Below w.heap.size w w') :
    Calls Tryd.prog 61 #[.int .i64 n, v, .int .i64 t] w fun ev w' => ev = .returned (.tuple #[.int .i64 0, fErr 1]) ∧ Below w.heap.size w w' := by
  go_enter Tryd.func61, Tryd.ntmps61
  go_wp2_with (go_at_call 27; refine hk.mono ?_; rintro ev w1 ⟨rfl, b1⟩; clear hk)
  go_ret2
  exact ⟨rfl, b1⟩
set_option maxRecDepth 100000 in
set_option maxHeartbeats 4000000 in
theorem who_good (n : Int) (l : List S3) (v : Value) (t : Int) (k : Int) (w : World) (hl : Sps w v l) (hlen : l.length ≤ 12) (hn0 : 1 ≤ n) (hn1 : n ≤ 40) (ht : 0 ≤ t)
    (hk : Calls Tryd.prog 27 #[.int .i64 n, v] w fun ev w' => ev = .returned (.tuple #[.int .i64 k, .nilIface]) ∧ Below w.heap.size w w') :
    Calls Tryd.prog 61 #[.int .i64 n, v, .int .i64 t] w fun ev w' => ev = .returned (.tuple #[.int .i64 (hold l (t % n)), fErr 0]) ∧ Below w.heap.size w w' := by
  have ht' : decide (t < 0) = false := by simp; omega
  have hn' : n ≠ 0 := by omega
  have hh : ∀ W, Below w.heap.size w W → Calls Tryd.prog 81 #[v, .int .i64 (t % n)] W fun e w' => e = .returned (.int .i64 (hold l (t % n))) ∧ Below W.heap.size W w' := fun W hb => by
    exact holder_any l v (t % n) W (hl.all hb) hlen
  have HH : Hid (∀ W, Below w.heap.size w W → Calls Tryd.prog 81 #[v, .int .i64 (t % n)] W fun e w' => e = .returned (.int .i64 (hold l (t % n))) ∧ Below W.heap.size W w') := hh
  clear hh hl
  go_enter Tryd.func61, Tryd.ntmps61
  go_wp2_with (first | (go_at_call 27; refine hk.mono ?_; rintro ev w1 ⟨rfl, b1⟩; clear hk; have h2 := HH.out w1 b1; clear HH) | (go_at_call 81; refine h2.mono ?_; rintro ev w2 ⟨rfl, b2⟩; clear h2))
  go_ret2
  exact ⟨rfl, b1.trans (b2.mono b1.size)⟩
theorem who_any (n : Int) (l : List S3) (v : Value) (t : Int) (w : World) (hl : Sps w v l) :
    Calls Tryd.prog 61 #[.int .i64 n, v, .int .i64 t] w fun ev w' => ev = .returned (.tuple #[.int .i64 (whoR n l t).1, fErr (whoR n l t).2]) ∧ Below w.heap.size w w' := by
  have hk := fcheck_any n l v w hl
  unfold whoR
  by_cases h : (fchk n l).2 = 0
  · obtain ⟨h1, h2, h3, _, _⟩ := fchk_zero h
    rw [h] at hk
    rw [if_pos h]
    by_cases ht : t < 0
    · rw [if_pos ht]
      exact who_neg n v t _ w ht hk
    · rw [if_neg ht]
      exact who_good n l v t _ w hl h3 h1 h2 (by omega) hk
  · rw [if_neg h]
    exact who_bad n v t _ _ w h hk
end Go.Proofs.YtajfgmlockjmhaeDoor
namespace Go.Proofs.YtajfgmlockjmhaeDoor
open Go.RowKit

set_option maxRecDepth 100000 in
set_option maxHeartbeats 4000000 in
theorem gturn_any (p : PD) (k : KD) (kb base : Nat) (a : GW) (w : World) (h : GK w base p k kb a) (hp : plchk p = 0) (hti : 0 ≤ k.time) :
    Calls Tryd.prog 41 #[.pointer (some ⟨kb, 0, none⟩)] w fun e w' => e = .returned (.int .i64 (hold p.spans (k.time % p.ticks))) ∧ Below w.heap.size w w' := by
  have hfz := (plchk_zero hp).2.2.1
  have hwr : whoR p.ticks p.spans k.time = (hold p.spans (k.time % p.ticks), 0) := by
    unfold whoR
    rw [if_pos hfz, if_neg (by omega)]
  have hsp := h.src.here.2
  obtain ⟨sa, sc, hsv⟩ := hsp.form
  rw [hsv] at hsp
  have HW : Hid (∀ W, Below w.heap.size w W → Calls Tryd.prog 61 #[.int .i64 p.ticks, .slice sa p.spans.length sc, .int .i64 k.time] W fun e w' => e = .returned (.tuple #[.int .i64 (hold p.spans (k.time % p.ticks)), .nilIface]) ∧ Below W.heap.size W w') := fun W hb => by
    have := who_any p.ticks p.spans (.slice sa p.spans.length sc) k.time W (hsp.all hb)
    rw [hwr] at this
    exact this
  have hkb := h.lt.1
  have c1 := h.c1
  have c2 := h.c2
  have c5 := h.c5
  rw [hsv] at c2
  have hcs : ∀ W, Below w.heap.size w W → W.cell? ⟨kb, 1, none⟩ = some (.int .i64 p.ticks) ∧ W.cell? ⟨kb, 2, none⟩ = some (.slice sa p.spans.length sc) ∧ W.cell? ⟨kb, 5, none⟩ = some (.int .i64 k.time) := fun W hb => ⟨(hb.cell (p := ⟨kb, 1, none⟩) hkb).trans c1, (hb.cell (p := ⟨kb, 2, none⟩) hkb).trans c2, (hb.cell (p := ⟨kb, 5, none⟩) hkb).trans c5⟩
  have bQ : Below w.heap.size w w.drew := (Below.refl _ _).drew
  clear h hsp hsv hwr hfz hp
  generalize hold p.spans (k.time % p.ticks) = r at HW ⊢
  go_enter Tryd.func41, Tryd.ntmps41
  go_upto_region 1 with fail
  go_region_held3 (fun w' => w'.cell? ⟨kb, 1, none⟩ = some (.int .i64 p.ticks) ∧ w'.cell? ⟨kb, 2, none⟩ = some (.slice sa p.spans.length sc) ∧ w'.cell? ⟨kb, 5, none⟩ = some (.int .i64 k.time))
    (first | exact ⟨c1, c2, c5⟩ | exact hcs _ bW | go_keep)
    (first
      | (go_at_call 61; refine (HW.out _ bQ).mono ?_; rintro e w1 ⟨rfl, b1⟩; have bW : Below w.heap.size w w1 := bQ.trans (b1.mono (by simp))))
  go_wp2
  go_ret
  exact ⟨rfl, bW⟩
/-- What an op may take. -/
def offG (k : KD) (o : O3) : Int × Bool := if o.1 = 9 then headL (lineAt k o) else (0, false)
set_option maxRecDepth 100000 in
set_option maxHeartbeats 4000000 in
theorem goff_no (kb : Nat) (x y z : Int) (w : World) (h9 : x ≠ 9) :
    Calls Tryd.prog 62 #[.pointer (some ⟨kb, 0, none⟩), .agg #[.int .i64 x, .int .i64 y, .int .i64 z]] w fun e w' => e = .returned (.tuple #[.int .i64 0, .bool false]) ∧ Below w.heap.size w w' := by
  have h9' : (x == 9) = false := by simpa using h9
  have h9'' : (x != 9) = true := by simpa using h9
  go_enter Tryd.func62, Tryd.ntmps62
  go_wp2
  go_ret2
  exact ⟨rfl, (Below.refl _ _).alloc (Nat.le_refl _) _⟩
set_option maxRecDepth 100000 in
set_option maxHeartbeats 4000000 in
theorem goff_yes (p : PD) (k : KD) (kb base : Nat) (a : GW) (y : Int) (n : Nat) (l : LnD) (w : World) (h : GK w base p k kb a) (hl : k.lines[n]? = some l) :
    Calls Tryd.prog 62 #[.pointer (some ⟨kb, 0, none⟩), .agg #[.int .i64 9, .int .i64 y, .int .i64 n]] w fun e w' => e = .returned (.tuple #[.int .i64 (headL l).1, .bool (headL l).2]) ∧ Below w.heap.size w w' := by
  have hn := (List.getElem?_eq_some_iff.1 hl).1
  have hni : (n : Int) < (k.lines.length : Int) := by omega
  obtain ⟨b, u, cap, l', hl', hb, hu, hlv, hcap, hptr, hln⟩ := h.lines.at hn
  obtain rfl : l = l' := Option.some.inj (hl.symm.trans hl')
  have c4 := h.c4
  rw [hlv] at c4
  have hnk := World.new_ne w ⟨kb, 4, none⟩ c4
  have hnl := World.new_ne w ⟨a.lr, n, none⟩ hptr
  have HP : Hid (∀ W, Below w.heap.size w W → Calls Tryd.prog 82 #[.pointer (some ⟨b, 0, none⟩)] W fun e w' => e = .returned (.tuple #[.int .i64 (headL l).1, .bool (headL l).2]) ∧ w' = W) := fun W hb => dpeek_l _ b l u W (hln.below hb)
  clear h hl hl' hb hu hlv hln
  go_enter Tryd.func62, Tryd.ntmps62
  go_upto_region 3 with fail
  have hA : Below w.heap.size w (w.alloc (.cells #[.int .i64 9, .int .i64 y, .int .i64 n] 38)).drew := ((Below.refl _ w).alloc (Nat.le_refl _) _).drew
  have d4 : (w.alloc (.cells #[.int .i64 9, .int .i64 y, .int .i64 n] 38)).drew.cell? ⟨kb, 4, none⟩ = some (.slice (some ⟨a.lr, 0, none⟩) k.lines.length cap) := (hA.cell (p := ⟨kb, 4, none⟩) (wlt c4)).trans c4
  have dl : (w.alloc (.cells #[.int .i64 9, .int .i64 y, .int .i64 n] 38)).drew.cell? ⟨a.lr, n, none⟩ = some (.pointer (some ⟨b, 0, none⟩)) := (hA.cell (p := ⟨a.lr, n, none⟩) (wlt hptr)).trans hptr
  have dn : (w.alloc (.cells #[.int .i64 9, .int .i64 y, .int .i64 n] 38)).drew.cell? ⟨w.heap.size, 2, none⟩ = some (.int .i64 n) := by simp
  go_region_held3 (fun w' => w'.cell? ⟨kb, 4, none⟩ = some (.slice (some ⟨a.lr, 0, none⟩) k.lines.length cap) ∧ w'.cell? ⟨w.heap.size, 2, none⟩ = some (.int .i64 n) ∧ w'.cell? ⟨a.lr, n, none⟩ = some (.pointer (some ⟨b, 0, none⟩)))
    (first | exact ⟨d4, dn, dl⟩ | go_keep)
    (first
      | (go_at_call 82; refine (HP.out _ hA).mono ?_; rintro e w1 ⟨rfl, hw1⟩; subst hw1))
  go_wp2
  go_ret2
  exact ⟨rfl, hA⟩
set_option maxRecDepth 100000 in
set_option maxHeartbeats 4000000 in
theorem gtake_none (p : PD) (k : KD) (kb base : Nat) (a : GW) (n : Nat) (l : LnD) (w : World) (h : GK w base p k kb a) (hl : k.lines[n]? = some l) (hh : (headL l).2 = false) :
    Calls Tryd.prog 63 #[.pointer (some ⟨kb, 0, none⟩), .int .i64 n] w fun e w' => e = .returned (.int .i64 3) ∧ w' = w := by
  have hn := (List.getElem?_eq_some_iff.1 hl).1
  have hni : (n : Int) < (k.lines.length : Int) := by omega
  obtain ⟨b, u, cap, l', hl', hb, hu, hlv, hcap, hptr, hln⟩ := h.lines.at hn
  obtain rfl : l = l' := Option.some.inj (hl.symm.trans hl')
  have c4 := h.c4
  rw [hlv] at c4
  have hx : l.xs = [] := by
    unfold headL at hh
    split at hh
    · assumption
    · cases hh
  rw [hx] at hln
  obtain ⟨ao, cu, rfl⟩ := Ln.none hln
  have HT : Hid (Calls Tryd.prog 83 #[.pointer (some ⟨b, 0, none⟩)] w fun e w' => e = .returned (.tuple #[.int .i64 0, .iface 71 (.int .i64 5)]) ∧ w' = w) := take_none b _ _ _ ao cu w hln.c
  clear h hl hl' hb hu hlv hln hx hh
  go_enter Tryd.func63, Tryd.ntmps63
  go_wp2_with (go_at_call 83; refine HT.out.mono ?_; rintro e w1 ⟨rfl, hw1⟩; subst hw1)
  go_ret
  exact ⟨rfl, rfl⟩
set_option maxRecDepth 100000 in
set_option maxHeartbeats 4000000 in
theorem gtake_some (p : PD) (k : KD) (kb base : Nat) (a : GW) (n : Nat) (l : LnD) (w : World) (h : GK w base p k kb a) (hbw : base ≤ w.heap.size) (hl : k.lines[n]? = some l) (hk : l.w.2.2.1 = 1 ∨ l.w.2.2.1 = 2) (hh : (headL l).2 = true) :
    Calls Tryd.prog 63 #[.pointer (some ⟨kb, 0, none⟩), .int .i64 n] w fun e w' => e = .returned (.int .i64 2) ∧ ∃ a', GK w' base p ⟨k.rooms, k.lines.set n (restL l), k.time⟩ kb a' ∧ KTouch (a.F kb) w w' ∧ ∀ g ∈ a'.F kb, g ∈ a.F kb ∨ w.heap.size ≤ g := by
  have hn := (List.getElem?_eq_some_iff.1 hl).1
  have hni : (n : Int) < (k.lines.length : Int) := by omega
  obtain ⟨b, u, cap, l', hl', hb, hu, hlv, hcap, hptr, hln⟩ := h.lines.at hn
  obtain rfl : l = l' := Option.some.inj (hl.symm.trans hl')
  have c4 := h.c4
  rw [hlv] at c4
  have HT : Hid (Calls Tryd.prog 83 #[.pointer (some ⟨b, 0, none⟩)] w fun e w' => e = .returned (.tuple #[.int .i64 (headL l).1, .nilIface]) ∧ ∃ a', GK w' base p ⟨k.rooms, k.lines.set n (restL l), k.time⟩ kb a' ∧ KTouch (a.F kb) w w' ∧ ∀ g ∈ a'.F kb, g ∈ a.F kb ∨ w.heap.size ≤ g) := by
    refine (dtake_l _ b l u w hk hh hln).mono ?_
    rintro e w' ⟨u', rfl, h3, h4⟩
    exact ⟨rfl, _, h.line hbw hb hu h4 h3⟩
  clear h hl hl' hb hu hlv hln hh hk
  go_enter Tryd.func63, Tryd.ntmps63
  go_wp2_with (go_at_call 83; refine HT.out.mono ?_; rintro e w1 ⟨rfl, hq⟩)
  go_ret
  exact ⟨rfl, hq⟩
set_option maxRecDepth 100000 in
set_option maxHeartbeats 4000000 in
theorem gsend_any (p : PD) (k : KD) (kb base : Nat) (a : GW) (n : Nat) (l : LnD) (x : Int) (w : World) (h : GK w base p k kb a) (hbw : base ≤ w.heap.size) (hl : k.lines[n]? = some l) (hk : (l.w.2.2.1 = 1 ∧ l.w.2.2.2 = 1) ∨ l.w.2.2.1 = 2) (hx : 0 ≤ x ∧ x ≤ 999) (hls : 0 ≤ l.ls ∧ l.ls < 1000000000) (hxs : l.xs.length ≤ 1000000) :
    Calls Tryd.prog 64 #[.pointer (some ⟨kb, 0, none⟩), .int .i64 n, .int .i64 x] w fun e w' => e = .returned (.int .i64 (if fitL l = true then 1 else 3)) ∧ ∃ a', GK w' base p ⟨k.rooms, k.lines.set n (putL l x), k.time⟩ kb a' ∧ KTouch (a.F kb) w w' ∧ ∀ g ∈ a'.F kb, g ∈ a.F kb ∨ w.heap.size ≤ g := by
  have hn := (List.getElem?_eq_some_iff.1 hl).1
  have hni : (n : Int) < (k.lines.length : Int) := by omega
  obtain ⟨b, u, cap, l', hl', hb, hu, hlv, hcap, hptr, hln⟩ := h.lines.at hn
  obtain rfl : l = l' := Option.some.inj (hl.symm.trans hl')
  have c4 := h.c4
  rw [hlv] at c4
  have HT : Hid (Calls Tryd.prog 84 #[.pointer (some ⟨b, 0, none⟩), .int .i64 x] w fun e w' => e = .returned (.tuple #[.bool (fitL l), .nilIface]) ∧ ∃ a', GK w' base p ⟨k.rooms, k.lines.set n (putL l x), k.time⟩ kb a' ∧ KTouch (a.F kb) w w' ∧ ∀ g ∈ a'.F kb, g ∈ a.F kb ∨ w.heap.size ≤ g) := by
    refine (dsend_l _ b l u x w hk hx hls hxs hln).mono ?_
    rintro e w' ⟨u', rfl, h3, h4⟩
    exact ⟨rfl, _, h.line hbw hb hu h4 h3⟩
  clear h hl hl' hb hu hlv hln hk hls hxs
  cases hfl : fitL l with
  | true =>
    rw [hfl] at HT
    go_enter Tryd.func64, Tryd.ntmps64
    go_wp2_with (go_at_call 84; refine HT.out.mono ?_; rintro e w1 ⟨rfl, hq⟩)
    go_ret
    exact ⟨rfl, hq⟩
  | false =>
    rw [hfl] at HT
    go_enter Tryd.func64, Tryd.ntmps64
    go_wp2_with (go_at_call 84; refine HT.out.mono ?_; rintro e w1 ⟨rfl, hq⟩)
    go_ret
    exact ⟨rfl, hq⟩
end Go.Proofs.YtajfgmlockjmhaeDoor

/-
  FCheck, FWho, Wires, WiresTop: joined into one text.
-/
import Derived.Test.YtfconbblnmbnpaeGreatDoorJa1
import Derived.Test.YtfconbblnmbnpaeGreatDoorJa4
import Derived.Test.YtfconbblnmbnpaeGreatDoorJa2
import Derived.OwnWalk
namespace Go.Proofs.YtfconbblnmbnpaeGreatDoor
open Go.RowKit

set_option maxRecDepth 100000 in
set_option maxHeartbeats 1000000 in
theorem clash_any (o s : S3) (sb : Nat) (w : World) (k0 : w.cell? ⟨sb, 0, none⟩ = some (.int .i64 s.1)) (k1 : w.cell? ⟨sb, 1, none⟩ = some (.int .i64 s.2.1)) :
    Calls Tryz.prog 42 #[.agg #[.int .i64 o.1, .int .i64 o.2.1, .int .i64 o.2.2], .pointer (some ⟨sb, 0, none⟩)] w fun e w' => e = .returned (.bool (clashB s o)) ∧ Below w.heap.size w w' := by
  have hlt := ltc k0
  have hn : sb ≠ w.heap.size := by omega
  obtain ⟨a, b, r⟩ := o
  obtain ⟨c, d, q⟩ := s
  simp only at k0 k1 ⊢
  by_cases h1 : a < d
  · by_cases h2 : c < b
    · have HF : Hid (clashB (c, d, q) (a, b, r) = true) := by show _ = _; simp [clashB, h1, h2]
      go_enter Tryz.func42, Tryz.ntmps42
      go_wp2
      go_ret
      exact ⟨retB HF.out.symm, (Below.refl _ _).alloc (Nat.le_refl _) _⟩
    · have h2' : decide (c < b) = false := by simpa using h2
      have HF : Hid (clashB (c, d, q) (a, b, r) = false) := by show _ = _; simp [clashB, h2]
      go_enter Tryz.func42, Tryz.ntmps42
      go_wp2
      go_ret
      exact ⟨retB HF.out.symm, (Below.refl _ _).alloc (Nat.le_refl _) _⟩
  · have h1' : decide (a < d) = false := by simpa using h1
    have HF : Hid (clashB (c, d, q) (a, b, r) = false) := by show _ = _; simp [clashB, h1]
    go_enter Tryz.func42, Tryz.ntmps42
    go_wp2
    go_ret
    exact ⟨retB HF.out.symm, (Below.refl _ _).alloc (Nat.le_refl _) _⟩

theorem fc_hit {α : Type} {p : α → Bool} {l : List α} {k : Nat} {o : α} (h : l[k]? = some o) (hp : p o = true) : l.any p = true := by
  rw [List.any_eq_true]
  exact ⟨o, List.mem_of_getElem? h, hp⟩
theorem any_miss {α : Type} {p : α → Bool} {l : List α} (h : ∀ (i : Nat) x, i < l.length → l[i]? = some x → p x = false) : l.any p = false := by
  rw [List.any_eq_false]
  intro x hx
  obtain ⟨i, hi, rfl⟩ := List.getElem_of_mem hx
  have := h i l[i] hi (List.getElem?_eq_getElem hi)
  simp [this]

set_option maxRecDepth 100000 in
set_option maxHeartbeats 2000000 in
theorem idxClash (l : List S3) (s : S3) (b off cap sb : Nat) (w : World) (k0 : w.cell? ⟨sb, 0, none⟩ = some (.int .i64 s.1)) (k1 : w.cell? ⟨sb, 1, none⟩ = some (.int .i64 s.2.1)) (hlen : l.length ≤ 12) (hlt : b < w.heap.size) (hc : SpC w b off l) :
    Calls Tryz.prog 65 #[.slice (some ⟨b, off, none⟩) l.length cap, .func (.func 42) #[] #[.pointer (some ⟨sb, 0, none⟩)]] w fun e w' =>
      (∃ r : Int, e = .returned (.int .i64 r) ∧ decide (0 ≤ r) = l.any (clashB s)) ∧ Below w.heap.size w w' := by
  have hlt1 := ltc k0
  go_enter Tryz.func65, Tryz.ntmps65
  go_wp2
  go_loopw [8] (fun i wr => ∃ k : Nat, k ≤ l.length ∧ i = .int .i64 k ∧ (∀ (j : Nat) x, j < k → l[j]? = some x → clashB s x = false) ∧ Below w.heap.size w wr) (fun i _ => l.length - (intOf i).toNat)
  case atStart => exact ⟨0, Nat.zero_le _, rfl, fun j x hj => by omega, Below.refl _ _⟩
  case round =>
    obtain ⟨k, hk, rfl, hall, hb⟩ := hrel
    have e0 : wr.cell? ⟨sb, 0, none⟩ = some (.int .i64 s.1) := (hb.cell (p := ⟨sb, 0, none⟩) hlt1).trans k0
    have e1 : wr.cell? ⟨sb, 1, none⟩ = some (.int .i64 s.2.1) := (hb.cell (p := ⟨sb, 1, none⟩) hlt1).trans k1
    have Hall : Hid (∀ (j : Nat) x, j < k → l[j]? = some x → clashB s x = false) := hall
    clear hall
    by_cases hkl : k < l.length
    · obtain ⟨o, ho⟩ : ∃ o, l[k]? = some o := ⟨l[k], List.getElem?_eq_getElem hkl⟩
      have HO : Hid (l[k]? = some o) := ho
      obtain ⟨c0, c1, c2⟩ := hc.below hb hlt k o ho
      clear ho
      have hon := clash_any o s sb wr e0 e1
      clear e0 e1
      cases hok : clashB s o with
      | false =>
        have HN : Hid (clashB s o = false) := hok
        rw [hok] at hon
        clear hok
        go_wp2_with (go_at_call 42; refine hon.mono ?_; rintro e w1 ⟨rfl, b1⟩; clear hon)
        go_roundw
        case rel =>
          refine ⟨k + 1, by omega, by go_num, fun j x hj hx => ?_, hb.trans (b1.mono hb.size)⟩
          by_cases hjk : j < k
          · exact Hall.out j x hjk hx
          · obtain rfl : j = k := by omega
            rw [HO.out] at hx
            obtain rfl := Option.some.inj hx
            exact HN.out
        case measure => simp [intOf]; omega
      | true =>
        have HF : Hid (l.any (clashB s) = true) := fc_hit HO.out hok
        rw [hok] at hon
        clear hok
        go_wp2_with (go_at_call 42; refine hon.mono ?_; rintro e w1 ⟨rfl, b1⟩; clear hon)
        go_ret
        exact ⟨⟨_, rfl, by rw [HF.out]; simp⟩, hb.trans (b1.mono hb.size)⟩
    · have HF : Hid (l.any (clashB s) = false) := any_miss (fun i x hi hx => Hall.out i x (by omega) hx)
      clear e0 e1
      go_wp2
      go_ret
      exact ⟨⟨_, rfl, by rw [HF.out]; simp⟩, hb⟩

set_option maxRecDepth 100000 in
set_option maxHeartbeats 2000000 in
theorem conClash (l : List S3) (s : S3) (b off cap sb : Nat) (w : World) (k0 : w.cell? ⟨sb, 0, none⟩ = some (.int .i64 s.1)) (k1 : w.cell? ⟨sb, 1, none⟩ = some (.int .i64 s.2.1)) (hlen : l.length ≤ 12) (hlt : b < w.heap.size) (hc : SpC w b off l) :
    Calls Tryz.prog 43 #[.slice (some ⟨b, off, none⟩) l.length cap, .func (.func 42) #[] #[.pointer (some ⟨sb, 0, none⟩)]] w fun e w' =>
      e = .returned (.bool (l.any (clashB s))) ∧ Below w.heap.size w w' := by
  have h := idxClash l s b off cap sb w k0 k1 hlen hlt hc
  clear k0 k1 hc
  go_enter Tryz.func43, Tryz.ntmps43
  go_wp2_with (go_at_call 65; refine h.mono ?_; rintro e w1 ⟨⟨r, rfl, hr⟩, bb⟩; clear h; have HR : Hid (decide (0 ≤ r) = l.any (clashB s)) := hr; clear hr)
  go_ret
  exact ⟨retB HR.out, bb⟩

set_option maxRecDepth 100000 in
set_option maxHeartbeats 1000000 in
theorem fcheck_ticks (n : Int) (v : Value) (w : World) (h : n < 1 ∨ 40 < n) :
    Calls Tryz.prog 29 #[.int .i64 n, v] w fun e w' => e = .returned (.tuple #[.int .i64 0, fErr 1]) ∧ Below w.heap.size w w' := by
  by_cases h1 : n < 1
  · go_enter Tryz.func29, Tryz.ntmps29
    go_wp2
    go_ret2
    exact ⟨rfl, Below.refl _ _⟩
  · have h1' : decide (n < 1) = false := by simpa using h1
    have h2 : 40 < n := by omega
    go_enter Tryz.func29, Tryz.ntmps29
    go_wp2
    go_ret2
    exact ⟨rfl, Below.refl _ _⟩
set_option maxRecDepth 100000 in
set_option maxHeartbeats 1000000 in
theorem fcheck_long (n : Int) (ao : Option Addr) (m cap : Nat) (w : World) (h1 : ¬ n < 1) (h2 : ¬ 40 < n) (hm : 12 < m) :
    Calls Tryz.prog 29 #[.int .i64 n, .slice ao m cap] w fun e w' => e = .returned (.tuple #[.int .i64 0, fErr 4]) ∧ Below w.heap.size w w' := by
  have h1' : decide (n < 1) = false := by simpa using h1
  have h2' : decide (40 < n) = false := by simpa using h2
  go_enter Tryz.func29, Tryz.ntmps29
  go_wp2
  go_ret2
  exact ⟨rfl, Below.refl _ _⟩
set_option maxRecDepth 100000 in
set_option maxHeartbeats 1000000 in
theorem fcheck_nil (n : Int) (ao : Option Addr) (cap : Nat) (w : World) (h1 : ¬ n < 1) (h2 : ¬ 40 < n) :
    Calls Tryz.prog 29 #[.int .i64 n, .slice ao 0 cap] w fun e w' => e = .returned (.tuple #[.int .i64 0, fErr 0]) ∧ Below w.heap.size w w' := by
  have h1' : decide (n < 1) = false := by simpa using h1
  have h2' : decide (40 < n) = false := by simpa using h2
  go_enter Tryz.func29, Tryz.ntmps29
  go_wp2
  refine wp_loop_rounds 1 ?_
  rw [rounds_succ]
  go_wp2
  go_ret2
  exact ⟨rfl, Below.refl _ _⟩

theorem take_len {α : Type} {l : List α} {k : Nat} (h : k < l.length) : (l.take k).length = k := by rw [List.length_take]; omega

set_option maxRecDepth 100000 in
set_option maxHeartbeats 4000000 in
theorem fcheck_mid (n : Int) (l : List S3) (b off cap : Nat) (w : World) (h1 : ¬ n < 1) (h2 : ¬ 40 < n) (hl : ¬ 12 < l.length) (hcap : l.length ≤ cap) (hlt : b < w.heap.size) (hc : SpC w b off l) :
    Calls Tryz.prog 29 #[.int .i64 n, .slice (some ⟨b, off, none⟩) l.length cap] w fun e w' => e = .returned (.tuple #[.int .i64 (scan (badAt n l) l.length 0).1, fErr (scan (badAt n l) l.length 0).2]) ∧ Below w.heap.size w w' := by
  have h1' : decide (n < 1) = false := by simpa using h1
  have h2' : decide (40 < n) = false := by simpa using h2
  have h3' : decide (12 < l.length) = false := by simpa using hl
  go_enter Tryz.func29, Tryz.ntmps29
  go_wp2
  go_loopw [22] (fun i wr => ∃ k : Nat, k ≤ l.length ∧ i = .int .i64 k ∧ Hid (scan (badAt n l) l.length 0 = scan (badAt n l) (l.length - k) k) ∧ Below w.heap.size w wr) (fun i _ => l.length - (intOf i).toNat)
  case atStart => exact ⟨0, Nat.zero_le _, rfl, rfl, Below.refl _ _⟩
  case round =>
    obtain ⟨k, hk, rfl, HS, hb⟩ := hrel
    by_cases hkl : k < l.length
    · have hkc : k ≤ cap := by omega
      obtain ⟨o, ho⟩ : ∃ o, l[k]? = some o := ⟨l[k], List.getElem?_eq_getElem hkl⟩
      have HO : Hid (l[k]? = some o) := ho
      obtain ⟨c0, c1, c2⟩ := hc.below hb hlt k o ho
      clear ho
      have bA : Below wr.heap.size wr (wr.alloc (.cells #[.int .i64 o.1, .int .i64 o.2.1, .int .i64 o.2.2] 47)) := (Below.refl _ _).alloc (Nat.le_refl _) _
      have hbA := hb.trans (bA.mono hb.size)
      have hfit := ffits_any o n (wr.alloc (.cells #[.int .i64 o.1, .int .i64 o.2.1, .int .i64 o.2.2] 47))
      cases hok : spOk n o with
      | false =>
        have HF : Hid (scan (badAt n l) l.length 0 = ((k : Int), 1)) := by
          have e := badOf_range (l := l.take k) hok
          show _ = _
          rw [scan_hit hkl HS.out (by rw [badAt_some HO.out, e]; decide), badAt_some HO.out, e]
        rw [hok] at hfit
        clear hok HS
        go_wp2_with (go_at_call 41; refine hfit.mono ?_; rintro e w1 ⟨rfl, b1⟩; clear hfit)
        go_ret2
        rw [HF.out]
        exact ⟨rfl, hbA.trans (b1.mono hbA.size)⟩
      | true =>
        have hcl : ∀ W, Below (wr.heap.size + 1) (wr.alloc (.cells #[.int .i64 o.1, .int .i64 o.2.1, .int .i64 o.2.2] 47)) W → Calls Tryz.prog 43 #[.slice (some ⟨b, off, none⟩) k cap, .func (.func 42) #[] #[.pointer (some ⟨wr.heap.size, 0, none⟩)]] W fun e w' =>
            e = .returned (.bool ((l.take k).any (clashB o))) ∧ Below W.heap.size W w' := fun W hW => by
          have hlt' : b < wr.heap.size := Nat.lt_of_lt_of_le hlt hb.size
          have h := conClash (l.take k) o b off cap wr.heap.size W ((hW.cell (p := ⟨wr.heap.size, 0, none⟩) (by simp)).trans (by simp)) ((hW.cell (p := ⟨wr.heap.size, 1, none⟩) (by simp)).trans (by simp)) (by rw [List.length_take]; omega) (Nat.lt_of_lt_of_le hlt' (by have := hW.size; simp at this; omega)) (((((hc.below hb hlt)).below bA hlt').take k).below hW (by omega))
          rw [take_len hkl] at h
          exact h
        have HC : Hid (∀ W, Below (wr.heap.size + 1) (wr.alloc (.cells #[.int .i64 o.1, .int .i64 o.2.1, .int .i64 o.2.2] 47)) W → Calls Tryz.prog 43 #[.slice (some ⟨b, off, none⟩) k cap, .func (.func 42) #[] #[.pointer (some ⟨wr.heap.size, 0, none⟩)]] W fun e w' =>
            e = .returned (.bool ((l.take k).any (clashB o))) ∧ Below W.heap.size W w') := hcl
        have HK : Hid (spOk n o = true) := hok
        rw [hok] at hfit
        clear hok hcl
        cases han : (l.take k).any (clashB o) with
        | true =>
          have HF : Hid (scan (badAt n l) l.length 0 = ((k : Int), 7)) := by
            have e := badOf_clash HK.out han
            show _ = _
            rw [scan_hit hkl HS.out (by rw [badAt_some HO.out, e]; decide), badAt_some HO.out, e]
          rw [han] at HC
          clear han HS
          go_wp2_with (first | (go_at_call 41; refine hfit.mono ?_; rintro e w1 ⟨rfl, b1⟩; clear hfit; have h2 := HC.out w1 (by simpa using b1)) | (go_at_call 43; refine h2.mono ?_; rintro e w2 ⟨rfl, b2⟩; clear h2))
          go_ret2
          rw [HF.out]
          exact ⟨rfl, (hbA.trans (b1.mono hbA.size)).trans (b2.mono (hbA.trans (b1.mono hbA.size)).size)⟩
        | false =>
          have HF : Hid (scan (badAt n l) l.length 0 = scan (badAt n l) (l.length - (k + 1)) (k + 1)) := by
            show _ = _
            exact scan_next hkl HS.out (by rw [badAt_some HO.out]; exact badOf_none HK.out han)
          rw [han] at HC
          clear han HS
          go_wp2_with (first | (go_at_call 41; refine hfit.mono ?_; rintro e w1 ⟨rfl, b1⟩; clear hfit; have h2 := HC.out w1 (by simpa using b1)) | (go_at_call 43; refine h2.mono ?_; rintro e w2 ⟨rfl, b2⟩; clear h2))
          go_roundw
          case rel => exact ⟨k + 1, by omega, by go_num, HF.out, (hbA.trans (b1.mono hbA.size)).trans (b2.mono (hbA.trans (b1.mono hbA.size)).size)⟩
          case measure => simp [intOf]; omega
    · obtain rfl : k = l.length := by omega
      have HF : Hid (scan (badAt n l) l.length 0 = (0, 0)) := by
        show _ = _
        exact scan_end HS.out
      clear HS
      go_wp2
      go_ret2
      rw [HF.out]
      exact ⟨rfl, hb⟩
theorem fcheck_any (n : Int) (l : List S3) (v : Value) (w : World) (hl : Sps w v l) :
    Calls Tryz.prog 29 #[.int .i64 n, v] w fun e w' => e = .returned (.tuple #[.int .i64 (fchk n l).1, fErr (fchk n l).2]) ∧ Below w.heap.size w w' := by
  by_cases h1 : n < 1 ∨ 40 < n
  · rw [fchk_lo h1]
    exact fcheck_ticks n v w h1
  rcases hl with ⟨rfl, ao, cap, rfl⟩ | ⟨b, off, cap, rfl, hcap, hlt, hc⟩
  · rw [fchk_mid h1 (by simp)]
    exact fcheck_nil n ao cap w (by omega) (by omega)
  · by_cases h2 : 12 < l.length
    · rw [fchk_long h1 h2]
      exact fcheck_long n _ _ cap w (by omega) (by omega) h2
    · rw [fchk_mid h1 h2]
      exact fcheck_mid n l b off cap w (by omega) (by omega) h2 hcap hlt hc
end Go.Proofs.YtfconbblnmbnpaeGreatDoor
namespace Go.Proofs.YtfconbblnmbnpaeGreatDoor
open Go.RowKit

/-- Who has a tick; the fault. -/
def whoR (n : Int) (l : List S3) (t : Int) : Int × Int := if (fchk n l).2 = 0 then (if t < 0 then (0, 1) else (hold l (t % n), 0)) else (0, (fchk n l).2)

set_option maxRecDepth 100000 in
set_option maxHeartbeats 4000000 in
theorem who_bad (n : Int) (v : Value) (t : Int) (k e : Int) (w : World) (he : e ≠ 0)
    (hk : Calls Tryz.prog 29 #[.int .i64 n, v] w fun ev w' => ev = .returned (.tuple #[.int .i64 k, fErr e]) ∧ Below w.heap.size w w') :
    Calls Tryz.prog 79 #[.int .i64 n, v, .int .i64 t] w fun ev w' => ev = .returned (.tuple #[.int .i64 0, fErr e]) ∧ Below w.heap.size w w' := by
  rw [fErr_not he] at hk ⊢
  go_enter Tryz.func79, Tryz.ntmps79
  go_wp2_with (go_at_call 29; refine hk.mono ?_; rintro ev w1 ⟨rfl, b1⟩; clear hk)
  go_ret2
  exact ⟨rfl, b1⟩
set_option maxRecDepth 100000 in
set_option maxHeartbeats 4000000 in
theorem who_neg (n : Int) (v : Value) (t : Int) (k : Int) (w : World) (ht : t < 0)
    (hk : Calls Tryz.prog 29 #[.int .i64 n, v] w fun ev w' => ev = .returned (.tuple #[.int .i64 k, .nilIface]) ∧ Below w.heap.size w w') :
    Calls Tryz.prog 79 #[.int .i64 n, v, .int .i64 t] w fun ev w' => ev = .returned (.tuple #[.int .i64 0, fErr 1]) ∧ Below w.heap.size w w' := by
  go_enter Tryz.func79, Tryz.ntmps79
  go_wp2_with (go_at_call 29; refine hk.mono ?_; rintro ev w1 ⟨rfl, b1⟩; clear hk)
  go_ret2
  exact ⟨rfl, b1⟩
set_option maxRecDepth 100000 in
set_option maxHeartbeats 4000000 in
theorem who_good (n : Int) (l : List S3) (v : Value) (t : Int) (k : Int) (w : World) (hl : Sps w v l) (hlen : l.length ≤ 12) (hn0 : 1 ≤ n) (hn1 : n ≤ 40) (ht : 0 ≤ t)
    (hk : Calls Tryz.prog 29 #[.int .i64 n, v] w fun ev w' => ev = .returned (.tuple #[.int .i64 k, .nilIface]) ∧ Below w.heap.size w w') :
    Calls Tryz.prog 79 #[.int .i64 n, v, .int .i64 t] w fun ev w' => ev = .returned (.tuple #[.int .i64 (hold l (t % n)), fErr 0]) ∧ Below w.heap.size w w' := by
  have ht' : decide (t < 0) = false := by simp; omega
  have hn' : n ≠ 0 := by omega
  have hh : ∀ W, Below w.heap.size w W → Calls Tryz.prog 86 #[v, .int .i64 (t % n)] W fun e w' => e = .returned (.int .i64 (hold l (t % n))) ∧ Below W.heap.size W w' := fun W hb => by
    exact holder_any l v (t % n) W (hl.all hb) hlen
  have HH : Hid (∀ W, Below w.heap.size w W → Calls Tryz.prog 86 #[v, .int .i64 (t % n)] W fun e w' => e = .returned (.int .i64 (hold l (t % n))) ∧ Below W.heap.size W w') := hh
  clear hh hl
  go_enter Tryz.func79, Tryz.ntmps79
  go_wp2_with (first | (go_at_call 29; refine hk.mono ?_; rintro ev w1 ⟨rfl, b1⟩; clear hk; have h2 := HH.out w1 b1; clear HH) | (go_at_call 86; refine h2.mono ?_; rintro ev w2 ⟨rfl, b2⟩; clear h2))
  go_ret2
  exact ⟨rfl, b1.trans (b2.mono b1.size)⟩
theorem who_any (n : Int) (l : List S3) (v : Value) (t : Int) (w : World) (hl : Sps w v l) :
    Calls Tryz.prog 79 #[.int .i64 n, v, .int .i64 t] w fun ev w' => ev = .returned (.tuple #[.int .i64 (whoR n l t).1, fErr (whoR n l t).2]) ∧ Below w.heap.size w w' := by
  have hk := fcheck_any n l v w hl
  unfold whoR
  by_cases h : (fchk n l).2 = 0
  · obtain ⟨h1, h2, h3, _, _⟩ := fchk_zero h
    rw [h] at hk
    rw [if_pos h]
    by_cases ht : t < 0
    · rw [if_pos ht]
      exact who_neg n v t _ w ht hk
    · rw [if_neg ht]
      exact who_good n l v t _ w hl h3 h1 h2 (by omega) hk
  · rw [if_neg h]
    exact who_bad n v t _ _ w h hk
end Go.Proofs.YtfconbblnmbnpaeGreatDoor
namespace Go.Proofs.YtfconbblnmbnpaeGreatDoor
open Go.RowKit

set_option maxRecDepth 100000 in
set_option maxHeartbeats 1000000 in
theorem on_any (o : O3) (wb ib : Nat) (what : Int) (i : Nat) (w : World) (h1 : w.cell? ⟨wb, 0, none⟩ = some (.int .i64 what)) (h2 : w.cell? ⟨ib, 0, none⟩ = some (.int .i64 i)) :
    Calls Tryz.prog 96 #[.agg #[.int .i64 o.1, .int .i64 o.2.1, .int .i64 o.2.2], .pointer (some ⟨wb, 0, none⟩), .pointer (some ⟨ib, 0, none⟩)] w fun e w' => e = .returned (.bool (onW what i o)) ∧ Below w.heap.size w w' := by
  have hlt1 := lt_of_cell h1
  have hlt2 := lt_of_cell h2
  have hn1 : wb ≠ w.heap.size := by omega
  have hn2 : ib ≠ w.heap.size := by omega
  by_cases hq : o.1 = what
  · have hqb : (o.1 == what) = true := by simpa using hq
    by_cases hr : o.2.2 = (i : Int)
    · have hrb : (o.2.2 == (i : Int)) = true := by simpa using hr
      have HR : Hid (onW what i o = true) := by show _ = _; simp [onW, hq, hr]
      clear hq hr
      go_enter Tryz.func96, Tryz.ntmps96
      go_wp2
      go_ret
      exact ⟨ret_bool HR.out.symm, (Below.refl _ _).alloc (Nat.le_refl _) _⟩
    · have hrb : (o.2.2 == (i : Int)) = false := by simpa using hr
      have HR : Hid (onW what i o = false) := by show _ = _; simp [onW, hr]
      clear hq hr
      go_enter Tryz.func96, Tryz.ntmps96
      go_wp2
      go_ret
      exact ⟨ret_bool HR.out.symm, (Below.refl _ _).alloc (Nat.le_refl _) _⟩
  · have hqb : (o.1 == what) = false := by simpa using hq
    have HR : Hid (onW what i o = false) := by show _ = _; simp [onW, hq]
    clear hq
    go_enter Tryz.func96, Tryz.ntmps96
    go_wp2
    go_ret
    exact ⟨ret_bool HR.out.symm, (Below.refl _ _).alloc (Nat.le_refl _) _⟩

/-- The place of the first op on that wire; -1, if none. -/
def widx (what : Int) (i : Nat) (l : List O3) : Int := match l.findIdx? (onW what i) with | some k => k | none => -1
theorem widx_some {what : Int} {i : Nat} {l : List O3} {k : Nat} (h : l.findIdx? (onW what i) = some k) : widx what i l = k := by unfold widx; rw [h]
theorem widx_none {what : Int} {i : Nat} {l : List O3} (h : l.findIdx? (onW what i) = none) : widx what i l = -1 := by unfold widx; rw [h]
theorem widx_any (what : Int) (i : Nat) (l : List O3) : decide (widx what i l ≥ 0) = l.any (onW what i) := by
  cases h : l.findIdx? (onW what i) with
  | none =>
    rw [widx_none h]
    rw [List.findIdx?_eq_none_iff] at h
    symm
    simpa using h
  | some k =>
    rw [widx_some h]
    have : (l.findIdx? (onW what i)).isSome = true := by rw [h]; rfl
    rw [List.findIdx?_isSome] at this
    rw [this]
    simp

set_option maxRecDepth 100000 in
set_option maxHeartbeats 2000000 in
theorem indexOn_some (what : Int) (wi : Nat) (l : List O3) (b off cap wb ib : Nat) (w : World) (hw1 : w.cell? ⟨wb, 0, none⟩ = some (.int .i64 what)) (hw2 : w.cell? ⟨ib, 0, none⟩ = some (.int .i64 wi)) (hlen : l.length ≤ 20) (hlt : b < w.heap.size)
    (hc : ∀ (i : Nat) o, l[i]? = some o → w.cell? ⟨b, off + i * 3, none⟩ = some (.int .i64 o.1) ∧ w.cell? ⟨b, off + i * 3 + 1, none⟩ = some (.int .i64 o.2.1) ∧ w.cell? ⟨b, off + i * 3 + 2, none⟩ = some (.int .i64 o.2.2)) :
    Calls Tryz.prog 71 #[.slice (some ⟨b, off, none⟩) l.length cap, .func (.func 96) #[] #[.pointer (some ⟨wb, 0, none⟩), .pointer (some ⟨ib, 0, none⟩)]] w fun e w' =>
      e = .returned (.int .i64 (widx what wi l)) ∧ Below w.heap.size w w' := by
  have hl1 := lt_of_cell hw1
  have hl2 := lt_of_cell hw2
  go_enter Tryz.func71, Tryz.ntmps71
  go_wp2
  go_loopw [8] (fun i wr => ∃ k : Nat, k ≤ l.length ∧ i = .int .i64 k ∧ (∀ (j : Nat) x, j < k → l[j]? = some x → onW what wi x = false) ∧ Below w.heap.size w wr) (fun i _ => l.length - (intOf i).toNat)
  case atStart => exact ⟨0, Nat.zero_le _, rfl, fun j x hj => by omega, Below.refl _ _⟩
  case round =>
    obtain ⟨k, hk, rfl, hall, hb⟩ := hrel
    have e1 : wr.cell? ⟨wb, 0, none⟩ = some (.int .i64 what) := (hb.cell (p := ⟨wb, 0, none⟩) hl1).trans hw1
    have e2 : wr.cell? ⟨ib, 0, none⟩ = some (.int .i64 wi) := (hb.cell (p := ⟨ib, 0, none⟩) hl2).trans hw2
    have Hall : Hid (∀ (j : Nat) x, j < k → l[j]? = some x → onW what wi x = false) := hall
    clear hall
    by_cases hkl : k < l.length
    · obtain ⟨o, ho⟩ : ∃ o, l[k]? = some o := ⟨l[k], List.getElem?_eq_getElem hkl⟩
      have HO : Hid (l[k]? = some o) := ho
      obtain ⟨c0, c1, c2⟩ := hc k o ho
      clear ho
      have d0 : wr.cell? ⟨b, off + k * 3, none⟩ = some (.int .i64 o.1) := (hb.cell (p := ⟨b, _, none⟩) hlt).trans c0
      have d1 : wr.cell? ⟨b, off + k * 3 + 1, none⟩ = some (.int .i64 o.2.1) := (hb.cell (p := ⟨b, _, none⟩) hlt).trans c1
      have d2 : wr.cell? ⟨b, off + k * 3 + 2, none⟩ = some (.int .i64 o.2.2) := (hb.cell (p := ⟨b, _, none⟩) hlt).trans c2
      clear c0 c1 c2
      have hon := on_any o wb ib what wi wr e1 e2
      clear e1 e2
      cases hok : onW what wi o with
      | false =>
        have HN : Hid (onW what wi o = false) := hok
        rw [hok] at hon
        clear hok
        go_wp2_with (go_at_call 96; refine hon.mono ?_; rintro e w1 ⟨rfl, b1⟩; clear hon)
        go_roundw
        case rel =>
          refine ⟨k + 1, by omega, by go_num, fun j x hj hx => ?_, hb.trans (b1.mono hb.size)⟩
          by_cases hjk : j < k
          · exact Hall.out j x hjk hx
          · obtain rfl : j = k := by omega
            rw [HO.out] at hx
            obtain rfl := Option.some.inj hx
            exact HN.out
        case measure => simp [intOf]; omega
      | true =>
        have HF : Hid (l.findIdx? (onW what wi) = some k) := findIdx_hit Hall.out HO.out hok
        rw [hok] at hon
        clear hok
        go_wp2_with (go_at_call 96; refine hon.mono ?_; rintro e w1 ⟨rfl, b1⟩; clear hon)
        go_ret
        exact ⟨ret_int (widx_some HF.out).symm, hb.trans (b1.mono hb.size)⟩
    · have HF : Hid (l.findIdx? (onW what wi) = none) := findIdx_miss (fun i x hi hx => Hall.out i x (by omega) hx)
      clear e1 e2
      go_wp2
      go_ret
      exact ⟨ret_int (widx_none HF.out).symm, hb⟩

set_option maxRecDepth 100000 in
set_option maxHeartbeats 2000000 in
theorem contains_some (what : Int) (wi : Nat) (l : List O3) (b off cap wb ib : Nat) (w : World) (hw1 : w.cell? ⟨wb, 0, none⟩ = some (.int .i64 what)) (hw2 : w.cell? ⟨ib, 0, none⟩ = some (.int .i64 wi)) (hlen : l.length ≤ 20) (hlt : b < w.heap.size)
    (hc : ∀ (i : Nat) o, l[i]? = some o → w.cell? ⟨b, off + i * 3, none⟩ = some (.int .i64 o.1) ∧ w.cell? ⟨b, off + i * 3 + 1, none⟩ = some (.int .i64 o.2.1) ∧ w.cell? ⟨b, off + i * 3 + 2, none⟩ = some (.int .i64 o.2.2)) :
    Calls Tryz.prog 95 #[.slice (some ⟨b, off, none⟩) l.length cap, .func (.func 96) #[] #[.pointer (some ⟨wb, 0, none⟩), .pointer (some ⟨ib, 0, none⟩)]] w fun e w' =>
      e = .returned (.bool (l.any (onW what wi))) ∧ Below w.heap.size w w' := by
  have hI := indexOn_some what wi l b off cap wb ib w hw1 hw2 hlen hlt hc
  have HA : Hid (decide (widx what wi l ≥ 0) = l.any (onW what wi)) := widx_any what wi l
  obtain ⟨x, hx⟩ : ∃ x, x = widx what wi l := ⟨_, rfl⟩
  rw [← hx] at hI HA
  clear hx hw1 hw2 hc
  go_enter Tryz.func95, Tryz.ntmps95
  go_wp2_with (go_at_call 71; refine hI.mono ?_; rintro e w1 ⟨rfl, b1⟩; clear hI)
  go_ret
  exact ⟨ret_bool HA.out, b1⟩

set_option maxRecDepth 1000000 in
set_option maxHeartbeats 4000000 in
theorem wiresOf_some (what : Int) (l : List O3) (b off cap : Nat) (w : World) (hlen : l.length ≤ 20) (hlt : b < w.heap.size)
    (hc : ∀ (i : Nat) o, l[i]? = some o → w.cell? ⟨b, off + i * 3, none⟩ = some (.int .i64 o.1) ∧ w.cell? ⟨b, off + i * 3 + 1, none⟩ = some (.int .i64 o.2.1) ∧ w.cell? ⟨b, off + i * 3 + 2, none⟩ = some (.int .i64 o.2.2)) :
    Calls Tryz.prog 84 #[.slice (some ⟨b, off, none⟩) l.length cap, .int .i64 what] w fun e w' => ∃ v', e = .returned v' ∧ Ints w' v' (wiresB what l) ∧ Below w.heap.size w w' := by
  obtain ⟨ii, hi, hz0, hz1, hz2⟩ := info_parts infoIntC
  go_enter Tryz.func84, Tryz.ntmps84
  go_wp2
  go_loopw [5, 7] (fun o i wr => ∃ k : Nat, k ≤ 12 ∧ i = .int .i64 k ∧ wr.ownsRow (w.heap.size + 1) 3 1 o (pickN (fun i => l.any (onW what i)) 0 k).length ((pickN (fun i => l.any (onW what i)) 0 k).map (Value.int .i64)) ∧
      Below (w.heap.size + 1) (w.alloc (.cells #[.int .i64 what] 3)) wr) (fun _ i _ => 12 - (intOf i).toNat)
  case atStart => exact ⟨0, Nat.zero_le _, rfl, World.ownsRow_nil _ _ _ _, Below.refl _ _⟩
  case round =>
    obtain ⟨k, hk, rfl, hown, hb⟩ := hrel
    have hpl := pick_len (fun i => l.any (onW what i)) k
    have HS : Hid (pickN (fun i => l.any (onW what i)) 0 (k + 1) = if l.any (onW what k) then pickN (fun i => l.any (onW what i)) 0 k ++ [(k : Int)] else pickN (fun i => l.any (onW what i)) 0 k) := pick_snoc _ k
    obtain ⟨Z, hZ⟩ : ∃ Z, Z = pickN (fun i => l.any (onW what i)) 0 k := ⟨_, rfl⟩
    rw [← hZ] at hown hpl HS
    have HZ : Hid (Z = pickN (fun i => l.any (onW what i)) 0 k) := hZ
    clear hZ
    have hsz : w.heap.size + 1 ≤ wr.heap.size := by have := hb.size; simpa using this
    have bw : Below w.heap.size w wr := ((Below.refl _ w).alloc (Nat.le_refl _) _).trans (hb.mono (by simp))
    by_cases hk12 : k < 12
    · have hk12' : (k : Int) < 12 := by omega
      have bA : Below wr.heap.size wr (wr.alloc (.cells #[.int .i64 k] 3)) := (Below.refl _ _).alloc (Nat.le_refl _) _
      have bwA : Below w.heap.size w (wr.alloc (.cells #[.int .i64 k] 3)) := bw.trans (bA.mono (by omega))
      have x1 : (wr.alloc (.cells #[.int .i64 k] 3)).cell? ⟨w.heap.size, 0, none⟩ = some (.int .i64 what) := (bA.cell (p := ⟨w.heap.size, 0, none⟩) (by simp; omega)).trans ((hb.cell (p := ⟨w.heap.size, 0, none⟩) (by simp)).trans (by simp))
      have x2 : (wr.alloc (.cells #[.int .i64 k] 3)).cell? ⟨wr.heap.size, 0, none⟩ = some (.int .i64 k) := by simp
      have hcon := contains_some what k l b off cap w.heap.size wr.heap.size _ x1 x2 hlen (Nat.lt_of_lt_of_le hlt bwA.size) (fun i o ho => by
        obtain ⟨c0, c1, c2⟩ := hc i o ho
        exact ⟨(bwA.cell (p := ⟨b, _, none⟩) hlt).trans c0, (bwA.cell (p := ⟨b, _, none⟩) hlt).trans c1, (bwA.cell (p := ⟨b, _, none⟩) hlt).trans c2⟩)
      clear x1 hc
      cases hany : l.any (onW what k) with
      | false =>
        rw [hany] at hcon HS
        have HP : Hid (pickN (fun i => l.any (onW what i)) 0 (k + 1) = Z) := by show _ = _; simpa using HS.out
        clear HS hany x2
        go_wp2_with (go_at_call 95; refine hcon.mono ?_; rintro e w2 ⟨rfl, b2⟩; clear hcon)
        go_roundw
        case rel => exact ⟨k + 1, by omega, by go_num, by rw [HP.out]; exact own_all (hown.alloc _) b2, (hb.trans (bA.mono hsz)).trans (b2.mono (by simp; omega))⟩
        case measure => simp [intOf]; omega
      | true =>
        rw [hany] at hcon HS
        have HP : Hid (pickN (fun i => l.any (onW what i)) 0 (k + 1) = Z ++ [(k : Int)]) := by show _ = _; simpa using HS.out
        clear HS hany
        go_wp2_with (first | (go_at_call 95; refine hcon.mono ?_; rintro e w2 ⟨rfl, b2⟩; have hown2 := own_all (hown.alloc _) b2; have hb2 := (hb.trans (bA.mono hsz)).trans (b2.mono (by simp; omega)); have y2 := (b2.cell (p := ⟨wr.heap.size, 0, none⟩) (by simp)).trans x2; clear hcon hown x2) | (at_builtin; refine wpList_append_own _ rfl _ _ 52 rfl (w.heap.size + 1) 3 ii (.int .i64 0) 1 8 Tryz.underlying52 hi hz0 hz1 hz2 rfl (by decide) _ _ _ rfl (hown2.alloc _) ⟨w2.heap.size, 0, none⟩ 1 1 [.int .i64 k] rfl rfl ?c1A ?c2A ?c3A ?c4A ?c5A ?_))
        case c1A =>
          intro j u hj
          match j, hj with
          | 0, hj => simp at hj; subst hj; simp [Addr.add]
        case c2A => intro u hu; simp at hu; subst hu; rfl
        case c3A => unfold maxLen; omega
        case c4A => omega
        case c5A => have := b2.size; simp at this; simp; omega
        intro v' w3 hown' hgrow _
        have hsz2 : w.heap.size + 1 ≤ w2.heap.size := by have := b2.size; simp at this; omega
        have hb3 : Below (w.heap.size + 1) (w.alloc (.cells #[.int .i64 what] 3)) w3 := (hb2.alloc hsz2 _).grown hgrow (by simp; omega) (fun j hj => (hown2.lt j hj).1)
        have R : w3.ownsRow (w.heap.size + 1) 3 1 v' (Z ++ [(k : Int)]).length ((Z ++ [(k : Int)]).map (Value.int .i64)) := by simpa using hown'
        clear hown' hgrow hown2 y2
        go_wp2
        go_roundw
        case rel => exact ⟨k + 1, by omega, by go_num, by rw [HP.out]; exact R, hb3⟩
        case measure => simp [intOf]; omega
    · have hke : k = 12 := by omega
      subst hke
      have HP : Hid (Z = wiresB what l) := HZ.out
      have hv := ints_of_own hown
      obtain ⟨g, n', cap', rfl⟩ := slice_form hown
      clear hown
      go_wp2
      go_ret
      exact ⟨_, rfl, by rw [← HP.out]; exact hv, bw⟩

end Go.Proofs.YtfconbblnmbnpaeGreatDoor
namespace Go.Proofs.YtfconbblnmbnpaeGreatDoor
open Go.RowKit

set_option maxRecDepth 1000000 in
set_option maxHeartbeats 400000 in
theorem wires_some (l : List O3) (b off cap : Nat) (w : World) (hf : Forms w) (hk0 : (chk l).2 = 0) (hlt : b < w.heap.size)
    (hc : ∀ (i : Nat) o, l[i]? = some o → w.cell? ⟨b, off + i * 3, none⟩ = some (.int .i64 o.1) ∧ w.cell? ⟨b, off + i * 3 + 1, none⟩ = some (.int .i64 o.2.1) ∧ w.cell? ⟨b, off + i * 3 + 2, none⟩ = some (.int .i64 o.2.2)) :
    Calls Tryz.prog 72 #[.slice (some ⟨b, off, none⟩) l.length cap] w fun e w' => ∃ x y, e = .returned (.tuple #[x, y, .nilIface]) ∧ Ints w' x (wiresB 8 l) ∧ Ints w' y (wiresB 9 l) ∧ Below w.heap.size w w' := by
  obtain ⟨hz0, hz1, hz2⟩ := chk_zero hk0
  have hck := check_any (.slice (some ⟨b, off, none⟩) l.length cap) l w hf (Or.inr ⟨b, off, cap, rfl, hlt, hc⟩)
  rw [chk_fst hk0, show errV (0, (0 : Int)).2 = .nilIface from rfl] at hck
  have hwo := fun what W (bW : Below w.heap.size w W) => wiresOf_some what l b off cap W (by omega) (Nat.lt_of_lt_of_le hlt bW.size) (fun i o ho => by
    obtain ⟨c0, c1, c2⟩ := hc i o ho
    exact ⟨(bW.cell (p := ⟨b, _, none⟩) hlt).trans c0, (bW.cell (p := ⟨b, _, none⟩) hlt).trans c1, (bW.cell (p := ⟨b, _, none⟩) hlt).trans c2⟩)
  have hw8 := hwo 8
  have hw9 := hwo 9
  clear hc hk0 hz0 hz2 hwo
  go_enter Tryz.func72, Tryz.ntmps72
  go_wp2_with (first | (go_at_call 48; refine hck.mono ?_; rintro e w1 ⟨rfl, b1⟩; clear hck) | (go_at_call 84; refine (hw8 _ b1).mono ?_; rintro e w2 ⟨x, rfl, ix, b2⟩; have b12 := b1.trans (b2.mono b1.size); clear hw8) | (go_at_call 84; refine (hw9 _ b12).mono ?_; rintro e w3 ⟨y, rfl, iy, b3⟩; clear hw9))
  go_ret3
  exact ⟨x, y, rfl, ints_all ix b3, iy, b12.trans (b3.mono b12.size)⟩
/-- The wires, where nothing is wrong. -/
theorem wires_good (v : Value) (l : List O3) (w : World) (hf : Forms w) (h : Ops w v l) (hk0 : (chk l).2 = 0) :
    Calls Tryz.prog 72 #[v] w fun e w' => ∃ x y, e = .returned (.tuple #[x, y, .nilIface]) ∧ Ints w' x (wiresB 8 l) ∧ Ints w' y (wiresB 9 l) ∧ Below w.heap.size w w' := by
  rcases h with ⟨rfl, ao, cap, rfl⟩ | ⟨b, off, cap, rfl, hlt, hc⟩
  · exact absurd hk0 (by decide)
  · exact wires_some l b off cap w hf hk0 hlt hc
set_option maxRecDepth 1000000 in
set_option maxHeartbeats 400000 in
theorem wires_fault (v : Value) (l : List O3) (w : World) (hf : Forms w) (h : Ops w v l) (hk0 : (chk l).2 ≠ 0) :
    Calls Tryz.prog 72 #[v] w fun e w' => e = .returned (.tuple #[.slice none 0 0, .slice none 0 0, errV (chk l).2]) ∧ Below w.heap.size w w' := by
  have hck := check_any v l w hf h
  have he : errV (chk l).2 = .iface 60 (.int .i64 (chk l).2) := by unfold errV; rw [if_neg hk0]
  rw [he] at hck ⊢
  obtain ⟨ao, cap, rfl⟩ := h.form
  clear he hk0 h
  go_enter Tryz.func72, Tryz.ntmps72
  go_wp2_with (go_at_call 48; refine hck.mono ?_; rintro e w1 ⟨rfl, b1⟩; clear hck)
  go_ret3
  exact ⟨rfl, b1⟩
end Go.Proofs.YtfconbblnmbnpaeGreatDoor

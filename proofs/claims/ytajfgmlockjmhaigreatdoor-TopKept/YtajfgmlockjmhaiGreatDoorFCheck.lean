/-
  frame.Check: which span is wrong, and how.
-/
import Derived.Test.YtajfgmlockjmhaiGreatDoorJt1
namespace Go.Proofs.YtajfgmlockjmhaiGreatDoor
open Go.RowKit

set_option maxRecDepth 100000 in
set_option maxHeartbeats 1000000 in
theorem clash_any (o s : S3) (sb : Nat) (w : World) (k0 : w.cell? ⟨sb, 0, none⟩ = some (.int .i64 s.1)) (k1 : w.cell? ⟨sb, 1, none⟩ = some (.int .i64 s.2.1)) :
    Calls Tryz.prog 93 #[.agg #[.int .i64 o.1, .int .i64 o.2.1, .int .i64 o.2.2], .pointer (some ⟨sb, 0, none⟩)] w fun e w' => e = .returned (.bool (clashB s o)) ∧ Below w.heap.size w w' := by
  have hlt := ltc k0
  have hn : sb ≠ w.heap.size := by omega
  obtain ⟨a, b, r⟩ := o
  obtain ⟨c, d, q⟩ := s
  simp only at k0 k1 ⊢
  by_cases h1 : a < d
  · by_cases h2 : c < b
    · have HF : Hid (clashB (c, d, q) (a, b, r) = true) := by show _ = _; simp [clashB, h1, h2]
      go_enter Tryz.func93, Tryz.ntmps93
      go_wp2
      go_ret
      exact ⟨retB HF.out.symm, (Below.refl _ _).alloc (Nat.le_refl _) _⟩
    · have h2' : decide (c < b) = false := by simpa using h2
      have HF : Hid (clashB (c, d, q) (a, b, r) = false) := by show _ = _; simp [clashB, h2]
      go_enter Tryz.func93, Tryz.ntmps93
      go_wp2
      go_ret
      exact ⟨retB HF.out.symm, (Below.refl _ _).alloc (Nat.le_refl _) _⟩
  · have h1' : decide (a < d) = false := by simpa using h1
    have HF : Hid (clashB (c, d, q) (a, b, r) = false) := by show _ = _; simp [clashB, h1]
    go_enter Tryz.func93, Tryz.ntmps93
    go_wp2
    go_ret
    exact ⟨retB HF.out.symm, (Below.refl _ _).alloc (Nat.le_refl _) _⟩

theorem fc_hit {α : Type} {p : α → Bool} {l : List α} {k : Nat} {o : α} (h : l[k]? = some o) (hp : p o = true) : l.any p = true := by
  rw [List.any_eq_true]
  exact ⟨o, List.mem_of_getElem? h, hp⟩
theorem any_miss {α : Type} {p : α → Bool} {l : List α} (h : ∀ (i : Nat) x, i < l.length → l[i]? = some x → p x = false) : l.any p = false := by
  rw [List.any_eq_false]
  intro x hx
  obtain ⟨i, hi, rfl⟩ := List.getElem_of_mem hx
  have := h i l[i] hi (List.getElem?_eq_getElem hi)
  simp [this]

set_option maxRecDepth 100000 in
set_option maxHeartbeats 2000000 in
theorem idxClash (l : List S3) (s : S3) (b off cap sb : Nat) (w : World) (k0 : w.cell? ⟨sb, 0, none⟩ = some (.int .i64 s.1)) (k1 : w.cell? ⟨sb, 1, none⟩ = some (.int .i64 s.2.1)) (hlen : l.length ≤ 12) (hlt : b < w.heap.size) (hc : SpC w b off l) :
    Calls Tryz.prog 135 #[.slice (some ⟨b, off, none⟩) l.length cap, .func (.func 93) #[] #[.pointer (some ⟨sb, 0, none⟩)]] w fun e w' =>
      (∃ r : Int, e = .returned (.int .i64 r) ∧ decide (0 ≤ r) = l.any (clashB s)) ∧ Below w.heap.size w w' := by
  have hlt1 := ltc k0
  go_enter Tryz.func135, Tryz.ntmps135
  go_wp2
  go_loopw [8] (fun i wr => ∃ k : Nat, k ≤ l.length ∧ i = .int .i64 k ∧ (∀ (j : Nat) x, j < k → l[j]? = some x → clashB s x = false) ∧ Below w.heap.size w wr) (fun i _ => l.length - (intOf i).toNat)
  case atStart => exact ⟨0, Nat.zero_le _, rfl, fun j x hj => by omega, Below.refl _ _⟩
  case round =>
    obtain ⟨k, hk, rfl, hall, hb⟩ := hrel
    have e0 : wr.cell? ⟨sb, 0, none⟩ = some (.int .i64 s.1) := (hb.cell (p := ⟨sb, 0, none⟩) hlt1).trans k0
    have e1 : wr.cell? ⟨sb, 1, none⟩ = some (.int .i64 s.2.1) := (hb.cell (p := ⟨sb, 1, none⟩) hlt1).trans k1
    have Hall : Hid (∀ (j : Nat) x, j < k → l[j]? = some x → clashB s x = false) := hall
    clear hall
    by_cases hkl : k < l.length
    · obtain ⟨o, ho⟩ : ∃ o, l[k]? = some o := ⟨l[k], List.getElem?_eq_getElem hkl⟩
      have HO : Hid (l[k]? = some o) := ho
      obtain ⟨c0, c1, c2⟩ := hc.below hb hlt k o ho
      clear ho
      have hon := clash_any o s sb wr e0 e1
      clear e0 e1
      cases hok : clashB s o with
      | false =>
        have HN : Hid (clashB s o = false) := hok
        rw [hok] at hon
        clear hok
        go_wp2_with (go_at_call 93; refine hon.mono ?_; rintro e w1 ⟨rfl, b1⟩; clear hon)
        go_roundw
        case rel =>
          refine ⟨k + 1, by omega, by go_num, fun j x hj hx => ?_, hb.trans (b1.mono hb.size)⟩
          by_cases hjk : j < k
          · exact Hall.out j x hjk hx
          · obtain rfl : j = k := by omega
            rw [HO.out] at hx
            obtain rfl := Option.some.inj hx
            exact HN.out
        case measure => simp [intOf]; omega
      | true =>
        have HF : Hid (l.any (clashB s) = true) := fc_hit HO.out hok
        rw [hok] at hon
        clear hok
        go_wp2_with (go_at_call 93; refine hon.mono ?_; rintro e w1 ⟨rfl, b1⟩; clear hon)
        go_ret
        exact ⟨⟨_, rfl, by rw [HF.out]; simp⟩, hb.trans (b1.mono hb.size)⟩
    · have HF : Hid (l.any (clashB s) = false) := any_miss (fun i x hi hx => Hall.out i x (by omega) hx)
      clear e0 e1
      go_wp2
      go_ret
      exact ⟨⟨_, rfl, by rw [HF.out]; simp⟩, hb⟩

set_option maxRecDepth 100000 in
set_option maxHeartbeats 2000000 in
theorem conClash (l : List S3) (s : S3) (b off cap sb : Nat) (w : World) (k0 : w.cell? ⟨sb, 0, none⟩ = some (.int .i64 s.1)) (k1 : w.cell? ⟨sb, 1, none⟩ = some (.int .i64 s.2.1)) (hlen : l.length ≤ 12) (hlt : b < w.heap.size) (hc : SpC w b off l) :
    Calls Tryz.prog 94 #[.slice (some ⟨b, off, none⟩) l.length cap, .func (.func 93) #[] #[.pointer (some ⟨sb, 0, none⟩)]] w fun e w' =>
      e = .returned (.bool (l.any (clashB s))) ∧ Below w.heap.size w w' := by
  have h := idxClash l s b off cap sb w k0 k1 hlen hlt hc
  clear k0 k1 hc
  go_enter Tryz.func94, Tryz.ntmps94
  go_wp2_with (go_at_call 135; refine h.mono ?_; rintro e w1 ⟨⟨r, rfl, hr⟩, bb⟩; clear h; have HR : Hid (decide (0 ≤ r) = l.any (clashB s)) := hr; clear hr)
  go_ret
  exact ⟨retB HR.out, bb⟩

set_option maxRecDepth 100000 in
set_option maxHeartbeats 1000000 in
theorem fcheck_ticks (n : Int) (v : Value) (w : World) (h : n < 1 ∨ 40 < n) :
    Calls Tryz.prog 61 #[.int .i64 n, v] w fun e w' => e = .returned (.tuple #[.int .i64 0, fErr 1]) ∧ Below w.heap.size w w' := by
  by_cases h1 : n < 1
  · go_enter Tryz.func61, Tryz.ntmps61
    go_wp2
    go_ret2
    exact ⟨rfl, Below.refl _ _⟩
  · have h1' : decide (n < 1) = false := by simpa using h1
    have h2 : 40 < n := by omega
    go_enter Tryz.func61, Tryz.ntmps61
    go_wp2
    go_ret2
    exact ⟨rfl, Below.refl _ _⟩
set_option maxRecDepth 100000 in
set_option maxHeartbeats 1000000 in
theorem fcheck_long (n : Int) (ao : Option Addr) (m cap : Nat) (w : World) (h1 : ¬ n < 1) (h2 : ¬ 40 < n) (hm : 12 < m) :
    Calls Tryz.prog 61 #[.int .i64 n, .slice ao m cap] w fun e w' => e = .returned (.tuple #[.int .i64 0, fErr 4]) ∧ Below w.heap.size w w' := by
  have h1' : decide (n < 1) = false := by simpa using h1
  have h2' : decide (40 < n) = false := by simpa using h2
  go_enter Tryz.func61, Tryz.ntmps61
  go_wp2
  go_ret2
  exact ⟨rfl, Below.refl _ _⟩
set_option maxRecDepth 100000 in
set_option maxHeartbeats 1000000 in
theorem fcheck_nil (n : Int) (ao : Option Addr) (cap : Nat) (w : World) (h1 : ¬ n < 1) (h2 : ¬ 40 < n) :
    Calls Tryz.prog 61 #[.int .i64 n, .slice ao 0 cap] w fun e w' => e = .returned (.tuple #[.int .i64 0, fErr 0]) ∧ Below w.heap.size w w' := by
  have h1' : decide (n < 1) = false := by simpa using h1
  have h2' : decide (40 < n) = false := by simpa using h2
  go_enter Tryz.func61, Tryz.ntmps61
  go_wp2
  refine wp_loop_rounds 1 ?_
  rw [rounds_succ]
  go_wp2
  go_ret2
  exact ⟨rfl, Below.refl _ _⟩

theorem take_len {α : Type} {l : List α} {k : Nat} (h : k < l.length) : (l.take k).length = k := by rw [List.length_take]; omega

set_option maxRecDepth 100000 in
set_option maxHeartbeats 4000000 in
theorem fcheck_mid (n : Int) (l : List S3) (b off cap : Nat) (w : World) (h1 : ¬ n < 1) (h2 : ¬ 40 < n) (hl : ¬ 12 < l.length) (hcap : l.length ≤ cap) (hlt : b < w.heap.size) (hc : SpC w b off l) :
    Calls Tryz.prog 61 #[.int .i64 n, .slice (some ⟨b, off, none⟩) l.length cap] w fun e w' => e = .returned (.tuple #[.int .i64 (scan (badAt n l) l.length 0).1, fErr (scan (badAt n l) l.length 0).2]) ∧ Below w.heap.size w w' := by
  have h1' : decide (n < 1) = false := by simpa using h1
  have h2' : decide (40 < n) = false := by simpa using h2
  have h3' : decide (12 < l.length) = false := by simpa using hl
  go_enter Tryz.func61, Tryz.ntmps61
  go_wp2
  go_loopw [22] (fun i wr => ∃ k : Nat, k ≤ l.length ∧ i = .int .i64 k ∧ Hid (scan (badAt n l) l.length 0 = scan (badAt n l) (l.length - k) k) ∧ Below w.heap.size w wr) (fun i _ => l.length - (intOf i).toNat)
  case atStart => exact ⟨0, Nat.zero_le _, rfl, rfl, Below.refl _ _⟩
  case round =>
    obtain ⟨k, hk, rfl, HS, hb⟩ := hrel
    by_cases hkl : k < l.length
    · have hkc : k ≤ cap := by omega
      obtain ⟨o, ho⟩ : ∃ o, l[k]? = some o := ⟨l[k], List.getElem?_eq_getElem hkl⟩
      have HO : Hid (l[k]? = some o) := ho
      obtain ⟨c0, c1, c2⟩ := hc.below hb hlt k o ho
      clear ho
      have bA : Below wr.heap.size wr (wr.alloc (.cells #[.int .i64 o.1, .int .i64 o.2.1, .int .i64 o.2.2] 82)) := (Below.refl _ _).alloc (Nat.le_refl _) _
      have hbA := hb.trans (bA.mono hb.size)
      have hfit := ffits_any o n (wr.alloc (.cells #[.int .i64 o.1, .int .i64 o.2.1, .int .i64 o.2.2] 82))
      cases hok : spOk n o with
      | false =>
        have HF : Hid (scan (badAt n l) l.length 0 = ((k : Int), 1)) := by
          have e := badOf_range (l := l.take k) hok
          show _ = _
          rw [scan_hit hkl HS.out (by rw [badAt_some HO.out, e]; decide), badAt_some HO.out, e]
        rw [hok] at hfit
        clear hok HS
        go_wp2_with (go_at_call 92; refine hfit.mono ?_; rintro e w1 ⟨rfl, b1⟩; clear hfit)
        go_ret2
        rw [HF.out]
        exact ⟨rfl, hbA.trans (b1.mono hbA.size)⟩
      | true =>
        have hcl : ∀ W, Below (wr.heap.size + 1) (wr.alloc (.cells #[.int .i64 o.1, .int .i64 o.2.1, .int .i64 o.2.2] 82)) W → Calls Tryz.prog 94 #[.slice (some ⟨b, off, none⟩) k cap, .func (.func 93) #[] #[.pointer (some ⟨wr.heap.size, 0, none⟩)]] W fun e w' =>
            e = .returned (.bool ((l.take k).any (clashB o))) ∧ Below W.heap.size W w' := fun W hW => by
          have hlt' : b < wr.heap.size := Nat.lt_of_lt_of_le hlt hb.size
          have h := conClash (l.take k) o b off cap wr.heap.size W ((hW.cell (p := ⟨wr.heap.size, 0, none⟩) (by simp)).trans (by simp)) ((hW.cell (p := ⟨wr.heap.size, 1, none⟩) (by simp)).trans (by simp)) (by rw [List.length_take]; omega) (Nat.lt_of_lt_of_le hlt' (by have := hW.size; simp at this; omega)) (((((hc.below hb hlt)).below bA hlt').take k).below hW (by omega))
          rw [take_len hkl] at h
          exact h
        have HC : Hid (∀ W, Below (wr.heap.size + 1) (wr.alloc (.cells #[.int .i64 o.1, .int .i64 o.2.1, .int .i64 o.2.2] 82)) W → Calls Tryz.prog 94 #[.slice (some ⟨b, off, none⟩) k cap, .func (.func 93) #[] #[.pointer (some ⟨wr.heap.size, 0, none⟩)]] W fun e w' =>
            e = .returned (.bool ((l.take k).any (clashB o))) ∧ Below W.heap.size W w') := hcl
        have HK : Hid (spOk n o = true) := hok
        rw [hok] at hfit
        clear hok hcl
        cases han : (l.take k).any (clashB o) with
        | true =>
          have HF : Hid (scan (badAt n l) l.length 0 = ((k : Int), 7)) := by
            have e := badOf_clash HK.out han
            show _ = _
            rw [scan_hit hkl HS.out (by rw [badAt_some HO.out, e]; decide), badAt_some HO.out, e]
          rw [han] at HC
          clear han HS
          go_wp2_with (first | (go_at_call 92; refine hfit.mono ?_; rintro e w1 ⟨rfl, b1⟩; clear hfit; have h2 := HC.out w1 (by simpa using b1)) | (go_at_call 94; refine h2.mono ?_; rintro e w2 ⟨rfl, b2⟩; clear h2))
          go_ret2
          rw [HF.out]
          exact ⟨rfl, (hbA.trans (b1.mono hbA.size)).trans (b2.mono (hbA.trans (b1.mono hbA.size)).size)⟩
        | false =>
          have HF : Hid (scan (badAt n l) l.length 0 = scan (badAt n l) (l.length - (k + 1)) (k + 1)) := by
            show _ = _
            exact scan_next hkl HS.out (by rw [badAt_some HO.out]; exact badOf_none HK.out han)
          rw [han] at HC
          clear han HS
          go_wp2_with (first | (go_at_call 92; refine hfit.mono ?_; rintro e w1 ⟨rfl, b1⟩; clear hfit; have h2 := HC.out w1 (by simpa using b1)) | (go_at_call 94; refine h2.mono ?_; rintro e w2 ⟨rfl, b2⟩; clear h2))
          go_roundw
          case rel => exact ⟨k + 1, by omega, by go_num, HF.out, (hbA.trans (b1.mono hbA.size)).trans (b2.mono (hbA.trans (b1.mono hbA.size)).size)⟩
          case measure => simp [intOf]; omega
    · obtain rfl : k = l.length := by omega
      have HF : Hid (scan (badAt n l) l.length 0 = (0, 0)) := by
        show _ = _
        exact scan_end HS.out
      clear HS
      go_wp2
      go_ret2
      rw [HF.out]
      exact ⟨rfl, hb⟩
theorem fcheck_any (n : Int) (l : List S3) (v : Value) (w : World) (hl : Sps w v l) :
    Calls Tryz.prog 61 #[.int .i64 n, v] w fun e w' => e = .returned (.tuple #[.int .i64 (fchk n l).1, fErr (fchk n l).2]) ∧ Below w.heap.size w w' := by
  by_cases h1 : n < 1 ∨ 40 < n
  · rw [fchk_lo h1]
    exact fcheck_ticks n v w h1
  rcases hl with ⟨rfl, ao, cap, rfl⟩ | ⟨b, off, cap, rfl, hcap, hlt, hc⟩
  · rw [fchk_mid h1 (by simp)]
    exact fcheck_nil n ao cap w (by omega) (by omega)
  · by_cases h2 : 12 < l.length
    · rw [fchk_long h1 h2]
      exact fcheck_long n _ _ cap w (by omega) (by omega) h2
    · rw [fchk_mid h1 h2]
      exact fcheck_mid n l b off cap w (by omega) (by omega) h2 hcap hlt hc
end Go.Proofs.YtajfgmlockjmhaiGreatDoor

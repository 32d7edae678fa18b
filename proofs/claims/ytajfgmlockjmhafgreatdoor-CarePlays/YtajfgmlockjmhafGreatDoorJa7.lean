/-
  Check, Wires, WiresTop, RoomBase, RoomParts, RoomNew, RoomCheck, GPut, CrHelp: joined into one text.
-/
import Derived.Test.YtajfgmlockjmhafGreatDoorFits
import Derived.Test.YtajfgmlockjmhafGreatDoorJa2
import Derived.OwnWalk
import Derived.Test.YtajfgmlockjmhafGreatDoorJa4
import Derived.Test.YtajfgmlockjmhafGreatDoorJa1
import Derived.Test.YtajfgmlockjmhafGreatDoorJa3
import Derived.Deep.RegionHeld3
import Derived.Deep.CutRange
import Derived.Deep.RegionWith
import Derived.BigQuiet
import Derived.RangeFuncNested
namespace Go.Proofs.YtajfgmlockjmhafGreatDoor
open Go.RowKit

set_option maxRecDepth 100000 in
set_option maxHeartbeats 1000000 in
theorem wrong_any (o : O3) (lb n cap : Nat) (ao : Option Addr) (w : World) (hf : Forms w) (hl : w.cell? ⟨lb, 0, none⟩ = some (.slice ao n cap)) :
    Calls Tryz.prog 86 #[.agg #[.int .i64 o.1, .int .i64 o.2.1, .int .i64 o.2.2], .pointer (some ⟨lb, 0, none⟩)] w fun e w' => e = .returned (.bool (!ok3 n o)) ∧ Below w.heap.size w w' := by
  have hlt := lt_of_cell hl
  have hlt' : lb ≠ w.heap.size := by omega
  go_enter Tryz.func86, Tryz.ntmps86
  go_wp2_with (go_at_call 87; refine (fits_any o.1 o.2.1 o.2.2 n _ (hf.alloc _)).mono ?_)
  rintro e w1 ⟨rfl, b1⟩
  go_wp2
  go_ret
  exact ⟨rfl, ((Below.refl _ _).alloc (Nat.le_refl _) _).trans (b1.mono (by simp))⟩

/-- The place of the first op that does not fit; -1, if none. -/
def fidx (n : Nat) (l : List O3) : Int := match l.findIdx? (fun o => !ok3 n o) with | some i => i | none => -1
theorem fidx_some {n : Nat} {l : List O3} {i : Nat} (h : l.findIdx? (fun o => !ok3 n o) = some i) : fidx n l = i := by unfold fidx; rw [h]
theorem fidx_none {n : Nat} {l : List O3} (h : l.findIdx? (fun o => !ok3 n o) = none) : fidx n l = -1 := by unfold fidx; rw [h]

set_option maxRecDepth 100000 in
set_option maxHeartbeats 2000000 in
theorem indexFunc_some (l : List O3) (b off cap lb n' cap' : Nat) (ao : Option Addr) (w : World) (hf : Forms w) (hl : w.cell? ⟨lb, 0, none⟩ = some (.slice ao n' cap')) (hlen : l.length ≤ 20) (hlt : b < w.heap.size)
    (hc : ∀ (i : Nat) o, l[i]? = some o → w.cell? ⟨b, off + i * 3, none⟩ = some (.int .i64 o.1) ∧ w.cell? ⟨b, off + i * 3 + 1, none⟩ = some (.int .i64 o.2.1) ∧ w.cell? ⟨b, off + i * 3 + 2, none⟩ = some (.int .i64 o.2.2)) :
    Calls Tryz.prog 88 #[.slice (some ⟨b, off, none⟩) l.length cap, .func (.func 86) #[] #[.pointer (some ⟨lb, 0, none⟩)]] w fun e w' =>
      e = .returned (.int .i64 (fidx n' l)) ∧ Below w.heap.size w w' := by
  have hll := lt_of_cell hl
  go_enter Tryz.func88, Tryz.ntmps88
  go_wp2
  go_loopw [8] (fun i wr => ∃ k : Nat, k ≤ l.length ∧ i = .int .i64 k ∧ (∀ (j : Nat) x, j < k → l[j]? = some x → (!ok3 n' x) = false) ∧ Below w.heap.size w wr) (fun i _ => l.length - (intOf i).toNat)
  case atStart => exact ⟨0, Nat.zero_le _, rfl, fun j x hj => by omega, Below.refl _ _⟩
  case round =>
    obtain ⟨k, hk, rfl, hall, hb⟩ := hrel
    have hf' : Forms wr := hf.all hb
    have hl' : wr.cell? ⟨lb, 0, none⟩ = some (.slice ao n' cap') := (hb.cell (p := ⟨lb, 0, none⟩) hll).trans hl
    have Hall : Hid (∀ (j : Nat) x, j < k → l[j]? = some x → (!ok3 n' x) = false) := hall
    clear hall
    by_cases hkl : k < l.length
    · obtain ⟨o, ho⟩ : ∃ o, l[k]? = some o := ⟨l[k], List.getElem?_eq_getElem hkl⟩
      have HO : Hid (l[k]? = some o) := ho
      obtain ⟨c0, c1, c2⟩ := hc k o ho
      clear ho
      have d0 : wr.cell? ⟨b, off + k * 3, none⟩ = some (.int .i64 o.1) := (hb.cell (p := ⟨b, _, none⟩) hlt).trans c0
      have d1 : wr.cell? ⟨b, off + k * 3 + 1, none⟩ = some (.int .i64 o.2.1) := (hb.cell (p := ⟨b, _, none⟩) hlt).trans c1
      have d2 : wr.cell? ⟨b, off + k * 3 + 2, none⟩ = some (.int .i64 o.2.2) := (hb.cell (p := ⟨b, _, none⟩) hlt).trans c2
      clear c0 c1 c2
      go_wp2_with (go_at_call 86; refine (wrong_any o lb n' cap' ao _ hf' hl').mono ?_)
      rintro e w1 ⟨rfl, b1⟩
      have hb1 := hb.trans (b1.mono hb.size)
      by_cases hok : ok3 n' o = true
      · have hok' : (!ok3 n' o) = false := by simp [hok]
        go_wp2
        go_roundw
        case rel =>
          refine ⟨k + 1, by omega, by go_num, fun j x hj hx => ?_, hb1⟩
          by_cases hjk : j < k
          · exact Hall.out j x hjk hx
          · obtain rfl : j = k := by omega
            rw [HO.out] at hx
            obtain rfl := Option.some.inj hx
            exact hok'
        case measure => simp [intOf]; omega
      · have hok' : (!ok3 n' o) = true := by simp [hok]
        have hfi := findIdx_hit (p := fun o => !ok3 n' o) Hall.out HO.out hok'
        have HF : Hid (l.findIdx? (fun o => !ok3 n' o) = some k) := hfi
        clear hfi
        go_wp2
        go_ret
        exact ⟨ret_int (fidx_some HF.out).symm, hb1⟩
    · have HF : Hid (l.findIdx? (fun o => !ok3 n' o) = none) := findIdx_miss (fun i x hi hx => Hall.out i x (by omega) hx)
      clear hf' hl'
      go_wp2
      go_ret
      exact ⟨ret_int (fidx_none HF.out).symm, hb⟩

set_option maxRecDepth 100000 in
set_option maxHeartbeats 1000000 in
theorem check_nil (ao : Option Addr) (cap : Nat) (w : World) :
    Calls Tryz.prog 68 #[.slice ao 0 cap] w fun e w' => e = .returned (.tuple #[.int .i64 0, errV 5]) ∧ Below w.heap.size w w' := by
  go_enter Tryz.func68, Tryz.ntmps68
  go_wp2
  go_ret2
  exact ⟨rfl, (Below.refl _ _).alloc (Nat.le_refl _) _⟩

set_option maxRecDepth 100000 in
set_option maxHeartbeats 1000000 in
theorem check_long (ao : Option Addr) (n cap : Nat) (w : World) (hn : 20 < n) :
    Calls Tryz.prog 68 #[.slice ao n cap] w fun e w' => e = .returned (.tuple #[.int .i64 0, errV 4]) ∧ Below w.heap.size w w' := by
  go_enter Tryz.func68, Tryz.ntmps68
  go_wp2
  go_ret2
  exact ⟨rfl, (Below.refl _ _).alloc (Nat.le_refl _) _⟩

set_option maxRecDepth 100000 in
set_option maxHeartbeats 1000000 in
theorem check_mid (l : List O3) (b off cap : Nat) (w : World) (hf : Forms w) (h0 : l.length ≠ 0) (h1 : ¬ 20 < l.length) (hlt : b < w.heap.size)
    (hc : ∀ (i : Nat) o, l[i]? = some o → w.cell? ⟨b, off + i * 3, none⟩ = some (.int .i64 o.1) ∧ w.cell? ⟨b, off + i * 3 + 1, none⟩ = some (.int .i64 o.2.1) ∧ w.cell? ⟨b, off + i * 3 + 2, none⟩ = some (.int .i64 o.2.2)) :
    Calls Tryz.prog 68 #[.slice (some ⟨b, off, none⟩) l.length cap] w fun e w' => e = .returned (.tuple #[.int .i64 (chk l).1, errV (chk l).2]) ∧ Below w.heap.size w w' := by
  have hb0 : Below w.heap.size w (w.alloc (.cells #[.slice (some ⟨b, off, none⟩) l.length cap] 65)) := (Below.refl _ _).alloc (Nat.le_refl _) _
  have hc' : ∀ (i : Nat) o, l[i]? = some o → (w.alloc (.cells #[.slice (some ⟨b, off, none⟩) l.length cap] 65)).cell? ⟨b, off + i * 3, none⟩ = some (.int .i64 o.1) ∧ (w.alloc (.cells #[.slice (some ⟨b, off, none⟩) l.length cap] 65)).cell? ⟨b, off + i * 3 + 1, none⟩ = some (.int .i64 o.2.1) ∧ (w.alloc (.cells #[.slice (some ⟨b, off, none⟩) l.length cap] 65)).cell? ⟨b, off + i * 3 + 2, none⟩ = some (.int .i64 o.2.2) := fun i o ho => by
    obtain ⟨a0, a1, a2⟩ := hc i o ho
    exact ⟨(hb0.cell (p := ⟨b, _, none⟩) hlt).trans a0, (hb0.cell (p := ⟨b, _, none⟩) hlt).trans a1, (hb0.cell (p := ⟨b, _, none⟩) hlt).trans a2⟩
  have hI := indexFunc_some l b off cap w.heap.size l.length cap (some ⟨b, off, none⟩) _ (hf.all hb0) (by simp) (by omega) (Nat.lt_of_lt_of_le hlt hb0.size) hc'
  clear hc hc' hb0
  have h0' : ¬ ((l.length : Int) = 0) := by omega
  cases hfi : l.findIdx? (fun o => !ok3 l.length o) with
  | some i =>
    have HC : Hid (chk l = ((i : Int), 1)) := chk_bad h0 h1 hfi
    rw [fidx_some hfi] at hI
    clear hfi
    go_enter Tryz.func68, Tryz.ntmps68
    go_wp2_with (go_at_call 88; refine hI.mono ?_)
    rintro e w1 ⟨rfl, b1⟩
    go_wp2
    go_ret2
    rw [HC.out]
    exact ⟨rfl, ((Below.refl _ _).alloc (Nat.le_refl _) _).trans (b1.mono (by simp))⟩
  | none =>
    have HC : Hid (chk l = (0, 0)) := chk_good h0 h1 hfi
    rw [fidx_none hfi] at hI
    clear hfi
    go_enter Tryz.func68, Tryz.ntmps68
    go_wp2_with (go_at_call 88; refine hI.mono ?_)
    rintro e w1 ⟨rfl, b1⟩
    go_wp2
    go_ret2
    rw [HC.out]
    exact ⟨rfl, ((Below.refl _ _).alloc (Nat.le_refl _) _).trans (b1.mono (by simp))⟩

theorem check_any (v : Value) (l : List O3) (w : World) (hf : Forms w) (h : Ops w v l) :
    Calls Tryz.prog 68 #[v] w fun e w' => e = .returned (.tuple #[.int .i64 (chk l).1, errV (chk l).2]) ∧ Below w.heap.size w w' := by
  rcases h with ⟨rfl, ao, cap, rfl⟩ | ⟨b, off, cap, rfl, hlt, hc⟩
  · rw [chk_nil]
    exact check_nil ao cap w
  · by_cases h0 : l.length = 0
    · obtain rfl := List.eq_nil_of_length_eq_zero h0
      rw [chk_nil]
      exact check_nil _ cap w
    · by_cases h1 : 20 < l.length
      · rw [chk_long h1]
        exact check_long _ _ cap w h1
      · exact check_mid l b off cap w hf h0 h1 hlt hc
end Go.Proofs.YtajfgmlockjmhafGreatDoor
namespace Go.Proofs.YtajfgmlockjmhafGreatDoor
open Go.RowKit

set_option maxRecDepth 100000 in
set_option maxHeartbeats 1000000 in
theorem on_any (o : O3) (wb ib : Nat) (what : Int) (i : Nat) (w : World) (h1 : w.cell? ⟨wb, 0, none⟩ = some (.int .i64 what)) (h2 : w.cell? ⟨ib, 0, none⟩ = some (.int .i64 i)) :
    Calls Tryz.prog 96 #[.agg #[.int .i64 o.1, .int .i64 o.2.1, .int .i64 o.2.2], .pointer (some ⟨wb, 0, none⟩), .pointer (some ⟨ib, 0, none⟩)] w fun e w' => e = .returned (.bool (onW what i o)) ∧ Below w.heap.size w w' := by
  have hlt1 := lt_of_cell h1
  have hlt2 := lt_of_cell h2
  have hn1 : wb ≠ w.heap.size := by omega
  have hn2 : ib ≠ w.heap.size := by omega
  by_cases hq : o.1 = what
  · have hqb : (o.1 == what) = true := by simpa using hq
    by_cases hr : o.2.2 = (i : Int)
    · have hrb : (o.2.2 == (i : Int)) = true := by simpa using hr
      have HR : Hid (onW what i o = true) := by show _ = _; simp [onW, hq, hr]
      clear hq hr
      go_enter Tryz.func96, Tryz.ntmps96
      go_wp2
      go_ret
      exact ⟨ret_bool HR.out.symm, (Below.refl _ _).alloc (Nat.le_refl _) _⟩
    · have hrb : (o.2.2 == (i : Int)) = false := by simpa using hr
      have HR : Hid (onW what i o = false) := by show _ = _; simp [onW, hr]
      clear hq hr
      go_enter Tryz.func96, Tryz.ntmps96
      go_wp2
      go_ret
      exact ⟨ret_bool HR.out.symm, (Below.refl _ _).alloc (Nat.le_refl _) _⟩
  · have hqb : (o.1 == what) = false := by simpa using hq
    have HR : Hid (onW what i o = false) := by show _ = _; simp [onW, hq]
    clear hq
    go_enter Tryz.func96, Tryz.ntmps96
    go_wp2
    go_ret
    exact ⟨ret_bool HR.out.symm, (Below.refl _ _).alloc (Nat.le_refl _) _⟩

/-- The place of the first op on that wire; -1, if none. -/
def widx (what : Int) (i : Nat) (l : List O3) : Int := match l.findIdx? (onW what i) with | some k => k | none => -1
theorem widx_some {what : Int} {i : Nat} {l : List O3} {k : Nat} (h : l.findIdx? (onW what i) = some k) : widx what i l = k := by unfold widx; rw [h]
theorem widx_none {what : Int} {i : Nat} {l : List O3} (h : l.findIdx? (onW what i) = none) : widx what i l = -1 := by unfold widx; rw [h]
theorem widx_any (what : Int) (i : Nat) (l : List O3) : decide (widx what i l ≥ 0) = l.any (onW what i) := by
  cases h : l.findIdx? (onW what i) with
  | none =>
    rw [widx_none h]
    rw [List.findIdx?_eq_none_iff] at h
    symm
    simpa using h
  | some k =>
    rw [widx_some h]
    have : (l.findIdx? (onW what i)).isSome = true := by rw [h]; rfl
    rw [List.findIdx?_isSome] at this
    rw [this]
    simp

set_option maxRecDepth 100000 in
set_option maxHeartbeats 2000000 in
theorem indexOn_some (what : Int) (wi : Nat) (l : List O3) (b off cap wb ib : Nat) (w : World) (hw1 : w.cell? ⟨wb, 0, none⟩ = some (.int .i64 what)) (hw2 : w.cell? ⟨ib, 0, none⟩ = some (.int .i64 wi)) (hlen : l.length ≤ 20) (hlt : b < w.heap.size)
    (hc : ∀ (i : Nat) o, l[i]? = some o → w.cell? ⟨b, off + i * 3, none⟩ = some (.int .i64 o.1) ∧ w.cell? ⟨b, off + i * 3 + 1, none⟩ = some (.int .i64 o.2.1) ∧ w.cell? ⟨b, off + i * 3 + 2, none⟩ = some (.int .i64 o.2.2)) :
    Calls Tryz.prog 88 #[.slice (some ⟨b, off, none⟩) l.length cap, .func (.func 96) #[] #[.pointer (some ⟨wb, 0, none⟩), .pointer (some ⟨ib, 0, none⟩)]] w fun e w' =>
      e = .returned (.int .i64 (widx what wi l)) ∧ Below w.heap.size w w' := by
  have hl1 := lt_of_cell hw1
  have hl2 := lt_of_cell hw2
  go_enter Tryz.func88, Tryz.ntmps88
  go_wp2
  go_loopw [8] (fun i wr => ∃ k : Nat, k ≤ l.length ∧ i = .int .i64 k ∧ (∀ (j : Nat) x, j < k → l[j]? = some x → onW what wi x = false) ∧ Below w.heap.size w wr) (fun i _ => l.length - (intOf i).toNat)
  case atStart => exact ⟨0, Nat.zero_le _, rfl, fun j x hj => by omega, Below.refl _ _⟩
  case round =>
    obtain ⟨k, hk, rfl, hall, hb⟩ := hrel
    have e1 : wr.cell? ⟨wb, 0, none⟩ = some (.int .i64 what) := (hb.cell (p := ⟨wb, 0, none⟩) hl1).trans hw1
    have e2 : wr.cell? ⟨ib, 0, none⟩ = some (.int .i64 wi) := (hb.cell (p := ⟨ib, 0, none⟩) hl2).trans hw2
    have Hall : Hid (∀ (j : Nat) x, j < k → l[j]? = some x → onW what wi x = false) := hall
    clear hall
    by_cases hkl : k < l.length
    · obtain ⟨o, ho⟩ : ∃ o, l[k]? = some o := ⟨l[k], List.getElem?_eq_getElem hkl⟩
      have HO : Hid (l[k]? = some o) := ho
      obtain ⟨c0, c1, c2⟩ := hc k o ho
      clear ho
      have d0 : wr.cell? ⟨b, off + k * 3, none⟩ = some (.int .i64 o.1) := (hb.cell (p := ⟨b, _, none⟩) hlt).trans c0
      have d1 : wr.cell? ⟨b, off + k * 3 + 1, none⟩ = some (.int .i64 o.2.1) := (hb.cell (p := ⟨b, _, none⟩) hlt).trans c1
      have d2 : wr.cell? ⟨b, off + k * 3 + 2, none⟩ = some (.int .i64 o.2.2) := (hb.cell (p := ⟨b, _, none⟩) hlt).trans c2
      clear c0 c1 c2
      have hon := on_any o wb ib what wi wr e1 e2
      clear e1 e2
      cases hok : onW what wi o with
      | false =>
        have HN : Hid (onW what wi o = false) := hok
        rw [hok] at hon
        clear hok
        go_wp2_with (go_at_call 96; refine hon.mono ?_; rintro e w1 ⟨rfl, b1⟩; clear hon)
        go_roundw
        case rel =>
          refine ⟨k + 1, by omega, by go_num, fun j x hj hx => ?_, hb.trans (b1.mono hb.size)⟩
          by_cases hjk : j < k
          · exact Hall.out j x hjk hx
          · obtain rfl : j = k := by omega
            rw [HO.out] at hx
            obtain rfl := Option.some.inj hx
            exact HN.out
        case measure => simp [intOf]; omega
      | true =>
        have HF : Hid (l.findIdx? (onW what wi) = some k) := findIdx_hit Hall.out HO.out hok
        rw [hok] at hon
        clear hok
        go_wp2_with (go_at_call 96; refine hon.mono ?_; rintro e w1 ⟨rfl, b1⟩; clear hon)
        go_ret
        exact ⟨ret_int (widx_some HF.out).symm, hb.trans (b1.mono hb.size)⟩
    · have HF : Hid (l.findIdx? (onW what wi) = none) := findIdx_miss (fun i x hi hx => Hall.out i x (by omega) hx)
      clear e1 e2
      go_wp2
      go_ret
      exact ⟨ret_int (widx_none HF.out).symm, hb⟩

set_option maxRecDepth 100000 in
set_option maxHeartbeats 2000000 in
theorem contains_some (what : Int) (wi : Nat) (l : List O3) (b off cap wb ib : Nat) (w : World) (hw1 : w.cell? ⟨wb, 0, none⟩ = some (.int .i64 what)) (hw2 : w.cell? ⟨ib, 0, none⟩ = some (.int .i64 wi)) (hlen : l.length ≤ 20) (hlt : b < w.heap.size)
    (hc : ∀ (i : Nat) o, l[i]? = some o → w.cell? ⟨b, off + i * 3, none⟩ = some (.int .i64 o.1) ∧ w.cell? ⟨b, off + i * 3 + 1, none⟩ = some (.int .i64 o.2.1) ∧ w.cell? ⟨b, off + i * 3 + 2, none⟩ = some (.int .i64 o.2.2)) :
    Calls Tryz.prog 95 #[.slice (some ⟨b, off, none⟩) l.length cap, .func (.func 96) #[] #[.pointer (some ⟨wb, 0, none⟩), .pointer (some ⟨ib, 0, none⟩)]] w fun e w' =>
      e = .returned (.bool (l.any (onW what wi))) ∧ Below w.heap.size w w' := by
  have hI := indexOn_some what wi l b off cap wb ib w hw1 hw2 hlen hlt hc
  have HA : Hid (decide (widx what wi l ≥ 0) = l.any (onW what wi)) := widx_any what wi l
  obtain ⟨x, hx⟩ : ∃ x, x = widx what wi l := ⟨_, rfl⟩
  rw [← hx] at hI HA
  clear hx hw1 hw2 hc
  go_enter Tryz.func95, Tryz.ntmps95
  go_wp2_with (go_at_call 88; refine hI.mono ?_; rintro e w1 ⟨rfl, b1⟩; clear hI)
  go_ret
  exact ⟨ret_bool HA.out, b1⟩

set_option maxRecDepth 1000000 in
set_option maxHeartbeats 4000000 in
theorem wiresOf_some (what : Int) (l : List O3) (b off cap : Nat) (w : World) (hlen : l.length ≤ 20) (hlt : b < w.heap.size)
    (hc : ∀ (i : Nat) o, l[i]? = some o → w.cell? ⟨b, off + i * 3, none⟩ = some (.int .i64 o.1) ∧ w.cell? ⟨b, off + i * 3 + 1, none⟩ = some (.int .i64 o.2.1) ∧ w.cell? ⟨b, off + i * 3 + 2, none⟩ = some (.int .i64 o.2.2)) :
    Calls Tryz.prog 94 #[.slice (some ⟨b, off, none⟩) l.length cap, .int .i64 what] w fun e w' => ∃ v', e = .returned v' ∧ Ints w' v' (wiresB what l) ∧ Below w.heap.size w w' := by
  obtain ⟨ii, hi, hz0, hz1, hz2⟩ := info_parts infoIntC
  go_enter Tryz.func94, Tryz.ntmps94
  go_wp2
  go_loopw [5, 7] (fun o i wr => ∃ k : Nat, k ≤ 12 ∧ i = .int .i64 k ∧ wr.ownsRow (w.heap.size + 1) 3 1 o (pickN (fun i => l.any (onW what i)) 0 k).length ((pickN (fun i => l.any (onW what i)) 0 k).map (Value.int .i64)) ∧
      Below (w.heap.size + 1) (w.alloc (.cells #[.int .i64 what] 3)) wr) (fun _ i _ => 12 - (intOf i).toNat)
  case atStart => exact ⟨0, Nat.zero_le _, rfl, World.ownsRow_nil _ _ _ _, Below.refl _ _⟩
  case round =>
    obtain ⟨k, hk, rfl, hown, hb⟩ := hrel
    have hpl := pick_len (fun i => l.any (onW what i)) k
    have HS : Hid (pickN (fun i => l.any (onW what i)) 0 (k + 1) = if l.any (onW what k) then pickN (fun i => l.any (onW what i)) 0 k ++ [(k : Int)] else pickN (fun i => l.any (onW what i)) 0 k) := pick_snoc _ k
    obtain ⟨Z, hZ⟩ : ∃ Z, Z = pickN (fun i => l.any (onW what i)) 0 k := ⟨_, rfl⟩
    rw [← hZ] at hown hpl HS
    have HZ : Hid (Z = pickN (fun i => l.any (onW what i)) 0 k) := hZ
    clear hZ
    have hsz : w.heap.size + 1 ≤ wr.heap.size := by have := hb.size; simpa using this
    have bw : Below w.heap.size w wr := ((Below.refl _ w).alloc (Nat.le_refl _) _).trans (hb.mono (by simp))
    by_cases hk12 : k < 12
    · have hk12' : (k : Int) < 12 := by omega
      have bA : Below wr.heap.size wr (wr.alloc (.cells #[.int .i64 k] 3)) := (Below.refl _ _).alloc (Nat.le_refl _) _
      have bwA : Below w.heap.size w (wr.alloc (.cells #[.int .i64 k] 3)) := bw.trans (bA.mono (by omega))
      have x1 : (wr.alloc (.cells #[.int .i64 k] 3)).cell? ⟨w.heap.size, 0, none⟩ = some (.int .i64 what) := (bA.cell (p := ⟨w.heap.size, 0, none⟩) (by simp; omega)).trans ((hb.cell (p := ⟨w.heap.size, 0, none⟩) (by simp)).trans (by simp))
      have x2 : (wr.alloc (.cells #[.int .i64 k] 3)).cell? ⟨wr.heap.size, 0, none⟩ = some (.int .i64 k) := by simp
      have hcon := contains_some what k l b off cap w.heap.size wr.heap.size _ x1 x2 hlen (Nat.lt_of_lt_of_le hlt bwA.size) (fun i o ho => by
        obtain ⟨c0, c1, c2⟩ := hc i o ho
        exact ⟨(bwA.cell (p := ⟨b, _, none⟩) hlt).trans c0, (bwA.cell (p := ⟨b, _, none⟩) hlt).trans c1, (bwA.cell (p := ⟨b, _, none⟩) hlt).trans c2⟩)
      clear x1 hc
      cases hany : l.any (onW what k) with
      | false =>
        rw [hany] at hcon HS
        have HP : Hid (pickN (fun i => l.any (onW what i)) 0 (k + 1) = Z) := by show _ = _; simpa using HS.out
        clear HS hany x2
        go_wp2_with (go_at_call 95; refine hcon.mono ?_; rintro e w2 ⟨rfl, b2⟩; clear hcon)
        go_roundw
        case rel => exact ⟨k + 1, by omega, by go_num, by rw [HP.out]; exact own_all (hown.alloc _) b2, (hb.trans (bA.mono hsz)).trans (b2.mono (by simp; omega))⟩
        case measure => simp [intOf]; omega
      | true =>
        rw [hany] at hcon HS
        have HP : Hid (pickN (fun i => l.any (onW what i)) 0 (k + 1) = Z ++ [(k : Int)]) := by show _ = _; simpa using HS.out
        clear HS hany
        go_wp2_with (first | (go_at_call 95; refine hcon.mono ?_; rintro e w2 ⟨rfl, b2⟩; have hown2 := own_all (hown.alloc _) b2; have hb2 := (hb.trans (bA.mono hsz)).trans (b2.mono (by simp; omega)); have y2 := (b2.cell (p := ⟨wr.heap.size, 0, none⟩) (by simp)).trans x2; clear hcon hown x2) | (at_builtin; refine wpList_append_own _ rfl _ _ 27 rfl (w.heap.size + 1) 3 ii (.int .i64 0) 1 8 Tryz.underlying27 hi hz0 hz1 hz2 rfl (by decide) _ _ _ rfl (hown2.alloc _) ⟨w2.heap.size, 0, none⟩ 1 1 [.int .i64 k] rfl rfl ?c1A ?c2A ?c3A ?c4A ?c5A ?_))
        case c1A =>
          intro j u hj
          match j, hj with
          | 0, hj => simp at hj; subst hj; simp [Addr.add]
        case c2A => intro u hu; simp at hu; subst hu; rfl
        case c3A => unfold maxLen; omega
        case c4A => omega
        case c5A => have := b2.size; simp at this; simp; omega
        intro v' w3 hown' hgrow _
        have hsz2 : w.heap.size + 1 ≤ w2.heap.size := by have := b2.size; simp at this; omega
        have hb3 : Below (w.heap.size + 1) (w.alloc (.cells #[.int .i64 what] 3)) w3 := (hb2.alloc hsz2 _).grown hgrow (by simp; omega) (fun j hj => (hown2.lt j hj).1)
        have R : w3.ownsRow (w.heap.size + 1) 3 1 v' (Z ++ [(k : Int)]).length ((Z ++ [(k : Int)]).map (Value.int .i64)) := by simpa using hown'
        clear hown' hgrow hown2 y2
        go_wp2
        go_roundw
        case rel => exact ⟨k + 1, by omega, by go_num, by rw [HP.out]; exact R, hb3⟩
        case measure => simp [intOf]; omega
    · have hke : k = 12 := by omega
      subst hke
      have HP : Hid (Z = wiresB what l) := HZ.out
      have hv := ints_of_own hown
      obtain ⟨g, n', cap', rfl⟩ := slice_form hown
      clear hown
      go_wp2
      go_ret
      exact ⟨_, rfl, by rw [← HP.out]; exact hv, bw⟩

end Go.Proofs.YtajfgmlockjmhafGreatDoor
namespace Go.Proofs.YtajfgmlockjmhafGreatDoor
open Go.RowKit

set_option maxRecDepth 1000000 in
set_option maxHeartbeats 400000 in
theorem wires_some (l : List O3) (b off cap : Nat) (w : World) (hf : Forms w) (hk0 : (chk l).2 = 0) (hlt : b < w.heap.size)
    (hc : ∀ (i : Nat) o, l[i]? = some o → w.cell? ⟨b, off + i * 3, none⟩ = some (.int .i64 o.1) ∧ w.cell? ⟨b, off + i * 3 + 1, none⟩ = some (.int .i64 o.2.1) ∧ w.cell? ⟨b, off + i * 3 + 2, none⟩ = some (.int .i64 o.2.2)) :
    Calls Tryz.prog 89 #[.slice (some ⟨b, off, none⟩) l.length cap] w fun e w' => ∃ x y, e = .returned (.tuple #[x, y, .nilIface]) ∧ Ints w' x (wiresB 8 l) ∧ Ints w' y (wiresB 9 l) ∧ Below w.heap.size w w' := by
  obtain ⟨hz0, hz1, hz2⟩ := chk_zero hk0
  have hck := check_any (.slice (some ⟨b, off, none⟩) l.length cap) l w hf (Or.inr ⟨b, off, cap, rfl, hlt, hc⟩)
  rw [chk_fst hk0, show errV (0, (0 : Int)).2 = .nilIface from rfl] at hck
  have hwo := fun what W (bW : Below w.heap.size w W) => wiresOf_some what l b off cap W (by omega) (Nat.lt_of_lt_of_le hlt bW.size) (fun i o ho => by
    obtain ⟨c0, c1, c2⟩ := hc i o ho
    exact ⟨(bW.cell (p := ⟨b, _, none⟩) hlt).trans c0, (bW.cell (p := ⟨b, _, none⟩) hlt).trans c1, (bW.cell (p := ⟨b, _, none⟩) hlt).trans c2⟩)
  have hw8 := hwo 8
  have hw9 := hwo 9
  clear hc hk0 hz0 hz2 hwo
  go_enter Tryz.func89, Tryz.ntmps89
  go_wp2_with (first | (go_at_call 68; refine hck.mono ?_; rintro e w1 ⟨rfl, b1⟩; clear hck) | (go_at_call 94; refine (hw8 _ b1).mono ?_; rintro e w2 ⟨x, rfl, ix, b2⟩; have b12 := b1.trans (b2.mono b1.size); clear hw8) | (go_at_call 94; refine (hw9 _ b12).mono ?_; rintro e w3 ⟨y, rfl, iy, b3⟩; clear hw9))
  go_ret3
  exact ⟨x, y, rfl, ints_all ix b3, iy, b12.trans (b3.mono b12.size)⟩
/-- The wires, where nothing is wrong. -/
theorem wires_good (v : Value) (l : List O3) (w : World) (hf : Forms w) (h : Ops w v l) (hk0 : (chk l).2 = 0) :
    Calls Tryz.prog 89 #[v] w fun e w' => ∃ x y, e = .returned (.tuple #[x, y, .nilIface]) ∧ Ints w' x (wiresB 8 l) ∧ Ints w' y (wiresB 9 l) ∧ Below w.heap.size w w' := by
  rcases h with ⟨rfl, ao, cap, rfl⟩ | ⟨b, off, cap, rfl, hlt, hc⟩
  · exact absurd hk0 (by decide)
  · exact wires_some l b off cap w hf hk0 hlt hc
set_option maxRecDepth 1000000 in
set_option maxHeartbeats 400000 in
theorem wires_fault (v : Value) (l : List O3) (w : World) (hf : Forms w) (h : Ops w v l) (hk0 : (chk l).2 ≠ 0) :
    Calls Tryz.prog 89 #[v] w fun e w' => e = .returned (.tuple #[.slice none 0 0, .slice none 0 0, errV (chk l).2]) ∧ Below w.heap.size w w' := by
  have hck := check_any v l w hf h
  have he : errV (chk l).2 = .iface 70 (.int .i64 (chk l).2) := by unfold errV; rw [if_neg hk0]
  rw [he] at hck ⊢
  obtain ⟨ao, cap, rfl⟩ := h.form
  clear he hk0 h
  go_enter Tryz.func89, Tryz.ntmps89
  go_wp2_with (go_at_call 68; refine hck.mono ?_; rintro e w1 ⟨rfl, b1⟩; clear hck)
  go_ret3
  exact ⟨rfl, b1⟩
end Go.Proofs.YtajfgmlockjmhafGreatDoor
namespace Go.Proofs.YtajfgmlockjmhafGreatDoor
open Go.RowKit

/-- The cells of a room as a value. -/
def cellsV (c : Nat → Int) : Value := .agg #[.int .i64 (c 0), .int .i64 (c 1), .int .i64 (c 2), .int .i64 (c 3), .int .i64 (c 4), .int .i64 (c 5)]
/-- A state as a value. -/
def stV (s : St) : Value := .agg #[.int .i64 s.p, .int .i64 (s.c 0), .int .i64 (s.c 1), .int .i64 (s.c 2), .int .i64 (s.c 3), .int .i64 (s.c 4), .int .i64 (s.c 5), .bool s.f]

def outB (n : Int) : Bool := decide (n < 0 ∨ 999 < n)
set_option maxRecDepth 100000 in
set_option maxHeartbeats 1000000 in
theorem outside_any (n : Int) (w : World) : Calls Tryz.prog 75 #[.int .i64 n] w fun e w' => e = .returned (.bool (outB n)) ∧ Below w.heap.size w w' := by
  by_cases h : n < 0
  · go_enter Tryz.func75, Tryz.ntmps75
    go_wp2
    go_ret
    exact ⟨ret_bool (by simp [outB, h]), Below.refl _ _⟩
  · have h' : decide (n < 0) = false := by simpa using h
    by_cases h2 : 1000 ≤ n
    · go_enter Tryz.func75, Tryz.ntmps75
      go_wp2
      go_ret
      exact ⟨ret_bool (by simp [outB]; omega), Below.refl _ _⟩
    · go_enter Tryz.func75, Tryz.ntmps75
      go_wp2
      go_ret
      exact ⟨ret_bool (by simp [outB]; omega), Below.refl _ _⟩

set_option maxRecDepth 100000 in
set_option maxHeartbeats 2000000 in
theorem indexOut (c : Nat → Int) (b off cap : Nat) (w : World) (hlt : b < w.heap.size) (hc : ∀ i : Nat, i < 6 → w.cell? ⟨b, off + i, none⟩ = some (.int .i64 (c i))) :
    Calls Tryz.prog 36 #[.slice (some ⟨b, off, none⟩) 6 cap, .func (.func 75) #[] #[]] w fun e w' =>
      (∃ r : Int, e = .returned (.int .i64 r) ∧ decide (0 ≤ r) = !cellsOk c) ∧ Below w.heap.size w w' := by
  go_enter Tryz.func36, Tryz.ntmps36
  go_wp2
  go_loopw [8] (fun i wr => ∃ k : Nat, k ≤ 6 ∧ i = .int .i64 k ∧ (∀ j : Nat, j < k → outB (c j) = false) ∧ Below w.heap.size w wr) (fun i _ => 6 - (intOf i).toNat)
  case atStart => exact ⟨0, Nat.zero_le _, rfl, fun j hj => by omega, Below.refl _ _⟩
  case round =>
    obtain ⟨k, hk, rfl, hall, hb⟩ := hrel
    have Hall : Hid (∀ j : Nat, j < k → outB (c j) = false) := hall
    clear hall
    by_cases hkl : k < 6
    · have d0 : wr.cell? ⟨b, off + k, none⟩ = some (.int .i64 (c k)) := (hb.cell (p := ⟨b, _, none⟩) hlt).trans (hc k hkl)
      go_wp2_with (go_at_call 75; refine (outside_any (c k) _).mono ?_)
      rintro e w1 ⟨rfl, b1⟩
      have hb1 := hb.trans (b1.mono hb.size)
      by_cases hok : outB (c k) = false
      · go_wp2
        go_roundw
        case rel =>
          refine ⟨k + 1, by omega, by go_num, fun j hj => ?_, hb1⟩
          by_cases hjk : j < k
          · exact Hall.out j hjk
          · obtain rfl : j = k := by omega
            exact hok
        case measure => simp [intOf]; omega
      · have hok' : outB (c k) = true := by simpa using hok
        have HF : Hid (cellsOk c = false) := by
          show _ = _
          apply cellsOk_no
          intro h
          have := h k hkl
          simp [outB] at hok'
          omega
        go_wp2
        go_ret
        exact ⟨⟨_, rfl, by rw [HF.out]; simp⟩, hb1⟩
    · have HF : Hid (cellsOk c = true) := by
        show _ = _
        rw [cellsOk_iff]
        intro i hi
        have := Hall.out i (by omega)
        simp [outB] at this
        omega
      clear hc
      go_wp2
      go_ret
      exact ⟨⟨_, rfl, by rw [HF.out]; simp⟩, hb⟩

set_option maxRecDepth 100000 in
set_option maxHeartbeats 2000000 in
theorem containsOut (c : Nat → Int) (b off cap : Nat) (w : World) (hlt : b < w.heap.size) (hc : ∀ i : Nat, i < 6 → w.cell? ⟨b, off + i, none⟩ = some (.int .i64 (c i))) :
    Calls Tryz.prog 20 #[.slice (some ⟨b, off, none⟩) 6 cap, .func (.func 75) #[] #[]] w fun e w' =>
      e = .returned (.bool (!cellsOk c)) ∧ Below w.heap.size w w' := by
  have h := indexOut c b off cap w hlt hc
  clear hc
  go_enter Tryz.func20, Tryz.ntmps20
  go_wp2_with (go_at_call 36; refine h.mono ?_; rintro e w1 ⟨⟨r, rfl, hr⟩, bb⟩; clear h; have HR : Hid (decide (0 ≤ r) = !cellsOk c) := hr; clear hr)
  go_ret
  exact ⟨ret_bool HR.out, bb⟩
end Go.Proofs.YtajfgmlockjmhafGreatDoor
namespace Go.Proofs.YtajfgmlockjmhafGreatDoor
open Go.RowKit

set_option maxRecDepth 100000 in
set_option maxHeartbeats 1000000 in
theorem sent_no (n a b : Int) (c : Nat → Int) (w : World) (h : n ≠ 8) :
    Calls Tryz.prog 81 #[.agg #[.int .i64 n, .int .i64 a, .int .i64 b], .agg #[.int .i64 (c 0), .int .i64 (c 1), .int .i64 (c 2), .int .i64 (c 3), .int .i64 (c 4), .int .i64 (c 5)]] w fun e w' => e = .returned (.int .i64 (-1)) ∧ Below w.heap.size w w' := by
  have h' : (n == 8) = false := by simpa using h
  go_enter Tryz.func81, Tryz.ntmps81
  go_wp2
  go_ret
  exact ⟨rfl, ((Below.refl _ _).alloc (Nat.le_refl _) _).alloc (by simp) _⟩
set_option maxRecDepth 100000 in
set_option maxHeartbeats 1000000 in
theorem sent_yes (a : Nat) (b : Int) (c : Nat → Int) (w : World) (ha : a ≤ 5) :
    Calls Tryz.prog 81 #[.agg #[.int .i64 8, .int .i64 a, .int .i64 b], .agg #[.int .i64 (c 0), .int .i64 (c 1), .int .i64 (c 2), .int .i64 (c 3), .int .i64 (c 4), .int .i64 (c 5)]] w fun e w' => e = .returned (.int .i64 (c a)) ∧ Below w.heap.size w w' := by
  have h : a = 0 ∨ a = 1 ∨ a = 2 ∨ a = 3 ∨ a = 4 ∨ a = 5 := by omega
  rcases h with rfl | rfl | rfl | rfl | rfl | rfl
  all_goals
    go_enter Tryz.func81, Tryz.ntmps81
    go_wp2
    go_ret
    exact ⟨rfl, ((Below.refl _ _).alloc (Nat.le_refl _) _).alloc (by simp) _⟩
end Go.Proofs.YtajfgmlockjmhafGreatDoor
namespace Go.Proofs.YtajfgmlockjmhafGreatDoor
open Go.RowKit

set_option maxRecDepth 100000 in
set_option maxHeartbeats 1000000 in
theorem new_any (w : World) : Calls Tryz.prog 34 #[] w fun e w' => e = .returned (stV ⟨0, fun _ => 0, false⟩) ∧ Below w.heap.size w w' := by
  go_enter Tryz.func34, Tryz.ntmps34
  go_wp2
  refine bodyPost_ret (v := stV ⟨0, fun _ => 0, false⟩) ?_ rfl ⟨rfl, ?_⟩
  · simp [results, Tryz.results34, go_sem, stV]
  · repeat' first | exact Below.refl _ _ | refine Below.drew ?_ | refine Below.alloc ?_ (by simp <;> omega) _ | refine Below.setCell ?_ (by simp <;> omega) _
end Go.Proofs.YtajfgmlockjmhafGreatDoor
namespace Go.Proofs.YtajfgmlockjmhafGreatDoor
open Go.RowKit

/-- The box of a state, in a later world. -/
theorem st_box {w w1 : World} {s : St} (b1 : Below (w.heap.size + 1) (w.alloc (.cells #[.int .i64 s.p, .int .i64 (s.c 0), .int .i64 (s.c 1), .int .i64 (s.c 2), .int .i64 (s.c 3), .int .i64 (s.c 4), .int .i64 (s.c 5), .bool s.f] 47)) w1) :
    w1.cell? ⟨w.heap.size, 0, none⟩ = some (.int .i64 s.p) ∧ (∀ i : Nat, i < 6 → w1.cell? ⟨w.heap.size, 1 + i, none⟩ = some (.int .i64 (s.c i))) ∧ w1.cell? ⟨w.heap.size, 7, none⟩ = some (.bool s.f) ∧ w.heap.size < w1.heap.size ∧ Below w.heap.size w w1 :=
  ⟨(b1.cell (p := ⟨w.heap.size, 0, none⟩) (by simp)).trans (by simp), six.2 ⟨(b1.cell (p := ⟨w.heap.size, 1, none⟩) (by simp)).trans (by simp), (b1.cell (p := ⟨w.heap.size, 2, none⟩) (by simp)).trans (by simp), (b1.cell (p := ⟨w.heap.size, 3, none⟩) (by simp)).trans (by simp), (b1.cell (p := ⟨w.heap.size, 4, none⟩) (by simp)).trans (by simp), (b1.cell (p := ⟨w.heap.size, 5, none⟩) (by simp)).trans (by simp), (b1.cell (p := ⟨w.heap.size, 6, none⟩) (by simp)).trans (by simp)⟩, (b1.cell (p := ⟨w.heap.size, 7, none⟩) (by simp)).trans (by simp),
   by have := b1.size; simp at this; omega, ((Below.refl _ w).alloc (Nat.le_refl _) _).trans (b1.mono (by omega))⟩

set_option maxRecDepth 100000 in
set_option maxHeartbeats 4000000 in
theorem rcheck_code (ao : Option Addr) (n cap : Nat) (k e : Int) (s : St) (w : World) (he : e ≠ 0)
    (hk : Calls Tryz.prog 68 #[.slice ao n cap] (w.alloc (.cells #[.int .i64 s.p, .int .i64 (s.c 0), .int .i64 (s.c 1), .int .i64 (s.c 2), .int .i64 (s.c 3), .int .i64 (s.c 4), .int .i64 (s.c 5), .bool s.f] 47)) fun ev w' => ev = .returned (.tuple #[.int .i64 k, errV e]) ∧ Below (w.heap.size + 1) (w.alloc (.cells #[.int .i64 s.p, .int .i64 (s.c 0), .int .i64 (s.c 1), .int .i64 (s.c 2), .int .i64 (s.c 3), .int .i64 (s.c 4), .int .i64 (s.c 5), .bool s.f] 47)) w') :
    Calls Tryz.prog 53 #[.slice ao n cap, stV s] w fun ev w' => ev = .returned (errV e) ∧ Below w.heap.size w w' := by
  rw [show errV e = .iface 70 (.int .i64 e) from by simp [errV, he]] at hk ⊢
  unfold stV
  go_enter Tryz.func53, Tryz.ntmps53
  go_wp2_with (go_at_call 68; refine hk.mono ?_; rintro ev w1 ⟨rfl, b1⟩; clear hk; obtain ⟨c0, c1, c2, c3, bw⟩ := st_box b1; clear b1 c0 c1 c2)
  go_ret
  exact ⟨rfl, bw⟩

set_option maxRecDepth 100000 in
set_option maxHeartbeats 4000000 in
theorem rcheck_place (ao : Option Addr) (n cap : Nat) (k : Int) (s : St) (w : World) (hs : ¬ (0 ≤ s.p ∧ s.p < n))
    (hk : Calls Tryz.prog 68 #[.slice ao n cap] (w.alloc (.cells #[.int .i64 s.p, .int .i64 (s.c 0), .int .i64 (s.c 1), .int .i64 (s.c 2), .int .i64 (s.c 3), .int .i64 (s.c 4), .int .i64 (s.c 5), .bool s.f] 47)) fun ev w' => ev = .returned (.tuple #[.int .i64 k, .nilIface]) ∧ Below (w.heap.size + 1) (w.alloc (.cells #[.int .i64 s.p, .int .i64 (s.c 0), .int .i64 (s.c 1), .int .i64 (s.c 2), .int .i64 (s.c 3), .int .i64 (s.c 4), .int .i64 (s.c 5), .bool s.f] 47)) w') :
    Calls Tryz.prog 53 #[.slice ao n cap, stV s] w fun ev w' => ev = .returned (errV 1) ∧ Below w.heap.size w w' := by
  unfold stV
  by_cases h0 : s.p < 0
  · go_enter Tryz.func53, Tryz.ntmps53
    go_wp2_with (go_at_call 68; refine hk.mono ?_; rintro ev w1 ⟨rfl, b1⟩; clear hk; obtain ⟨c0, c1, c2, c3, bw⟩ := st_box b1; clear b1 c1 c2)
    go_ret
    exact ⟨rfl, bw⟩
  · have h0' : decide (s.p < 0) = false := by simpa using h0
    have h1 : (n : Int) ≤ s.p := by omega
    go_enter Tryz.func53, Tryz.ntmps53
    go_wp2_with (go_at_call 68; refine hk.mono ?_; rintro ev w1 ⟨rfl, b1⟩; clear hk; obtain ⟨c0, c1, c2, c3, bw⟩ := st_box b1; clear b1 c1 c2)
    go_ret
    exact ⟨rfl, bw⟩
set_option maxRecDepth 100000 in
set_option maxHeartbeats 4000000 in
theorem rcheck_cells (ao : Option Addr) (n cap : Nat) (k : Int) (s : St) (w : World) (hs : 0 ≤ s.p ∧ s.p < n)
    (hk : Calls Tryz.prog 68 #[.slice ao n cap] (w.alloc (.cells #[.int .i64 s.p, .int .i64 (s.c 0), .int .i64 (s.c 1), .int .i64 (s.c 2), .int .i64 (s.c 3), .int .i64 (s.c 4), .int .i64 (s.c 5), .bool s.f] 47)) fun ev w' => ev = .returned (.tuple #[.int .i64 k, .nilIface]) ∧ Below (w.heap.size + 1) (w.alloc (.cells #[.int .i64 s.p, .int .i64 (s.c 0), .int .i64 (s.c 1), .int .i64 (s.c 2), .int .i64 (s.c 3), .int .i64 (s.c 4), .int .i64 (s.c 5), .bool s.f] 47)) w') :
    Calls Tryz.prog 53 #[.slice ao n cap, stV s] w fun ev w' => ev = .returned (errV (if cellsOk s.c = true then 0 else 1)) ∧ Below w.heap.size w w' := by
  unfold stV
  have h0 : decide (s.p < 0) = false := by simp; omega
  have h1 : decide ((n : Int) ≤ s.p) = false := by simp; omega
  obtain ⟨h2, h3⟩ := hs
  by_cases hc : cellsOk s.c = true
  · rw [if_pos hc]
    have HC : Hid (cellsOk s.c = true) := hc
    clear hc
    go_enter Tryz.func53, Tryz.ntmps53
    go_wp2_with (first | (go_at_call 68; refine hk.mono ?_; rintro ev w1 ⟨rfl, b1⟩; clear hk; obtain ⟨c0, c1, c2, c3, bw⟩ := st_box b1; clear b1 c2; have hcf := containsOut s.c w.heap.size 1 6 w1 c3 c1; rw [HC.out] at hcf; clear c1) | (go_at_call 20; refine hcf.mono ?_; rintro ev w2 ⟨rfl, b2⟩; clear hcf))
    go_ret
    exact ⟨rfl, bw.trans (b2.mono bw.size)⟩
  · have hc' : cellsOk s.c = false := by simpa using hc
    rw [if_neg hc]
    have HC : Hid (cellsOk s.c = false) := hc'
    clear hc hc'
    go_enter Tryz.func53, Tryz.ntmps53
    go_wp2_with (first | (go_at_call 68; refine hk.mono ?_; rintro ev w1 ⟨rfl, b1⟩; clear hk; obtain ⟨c0, c1, c2, c3, bw⟩ := st_box b1; clear b1 c2; have hcf := containsOut s.c w.heap.size 1 6 w1 c3 c1; rw [HC.out] at hcf; clear c1) | (go_at_call 20; refine hcf.mono ?_; rintro ev w2 ⟨rfl, b2⟩; clear hcf))
    go_ret
    exact ⟨rfl, bw.trans (b2.mono bw.size)⟩

theorem rcheck_any (l : List O3) (v : Value) (s : St) (w : World) (hf : Forms w) (hl : Ops w v l) :
    Calls Tryz.prog 53 #[v, stV s] w fun ev w' => ev = .returned (errV (rchk l s)) ∧ Below w.heap.size w w' := by
  have b0 : Below w.heap.size w (w.alloc (.cells #[.int .i64 s.p, .int .i64 (s.c 0), .int .i64 (s.c 1), .int .i64 (s.c 2), .int .i64 (s.c 3), .int .i64 (s.c 4), .int .i64 (s.c 5), .bool s.f] 47)) := (Below.refl _ _).alloc (Nat.le_refl _) _
  have hk := check_any v l (w.alloc (.cells #[.int .i64 s.p, .int .i64 (s.c 0), .int .i64 (s.c 1), .int .i64 (s.c 2), .int .i64 (s.c 3), .int .i64 (s.c 4), .int .i64 (s.c 5), .bool s.f] 47)) (hf.all b0) (hl.all b0)
  simp only [World.size_alloc] at hk
  obtain ⟨ao, cap, rfl⟩ := hl.form
  by_cases h : (chk l).2 = 0
  · obtain ⟨h0, h1, h2⟩ := chk_zero h
    rw [h] at hk
    by_cases hp : 0 ≤ s.p ∧ s.p < l.length
    · refine (rcheck_cells ao l.length cap _ s w hp hk).mono fun _ _ ⟨e, hb⟩ => ⟨?_, hb⟩
      rw [e]
      simp only [rchk, h, if_true, stOk, hp, and_self, decide_true, Bool.true_and]
    · refine (rcheck_place ao l.length cap _ s w hp hk).mono fun _ _ ⟨e, hb⟩ => ⟨?_, hb⟩
      rw [e]
      simp only [rchk, h, if_true, stOk, hp, decide_false, Bool.false_and]
      rfl
  · refine (rcheck_code ao l.length cap _ _ s w h hk).mono fun _ _ ⟨e, hb⟩ => ⟨?_, hb⟩
    rw [e]
    simp only [rchk, h, if_false]
end Go.Proofs.YtajfgmlockjmhafGreatDoor
namespace Go.Proofs.YtajfgmlockjmhafGreatDoor
open Go.RowKit

set_option maxRecDepth 100000 in
set_option maxHeartbeats 8000000 in
theorem gput_ok (p : PD) (k : KD) (kb base : Nat) (a : GW) (r : Nat) (s' : St) (w : World) (hfm : Forms w) (h : GK w base p k kb a) (hp : plchk p = 0) (hk : KOk p k) (hr : r < p.code.length) (hs : ∀ c, p.code[r]? = some c → stOk s' c.length = true) :
    Calls Tryz.prog 39 #[.pointer (some ⟨kb, 0, none⟩), .int .i64 r, stA s'] w fun e w' => e = .returned .nilIface ∧ GK w' base p ⟨k.rooms.set r s', k.lines, k.time⟩ kb a ∧ KTouch [a.rb] w w' := by
  have hcz := (plchk_zero hp).2.2.2.2.2.2.1
  have hrk : k.rooms.length = p.code.length := hk.rl
  have hcd := h.src.here.1
  obtain ⟨ca, cc, hcv⟩ := hcd.form
  rw [hcv] at hcd
  obtain ⟨cb, co, ua, un, ug, c, rfl, hclt, hcy, hcc, rfl, hops⟩ := hcd.at hr
  have hrc : rchk c s' = 0 := by
    unfold rchk
    rw [if_pos (codesE_zero hcz c (List.mem_of_getElem? hcy)), if_pos (hs c hcy)]
  have HC : Hid (∀ W, Below w.heap.size w W → Calls Tryz.prog 53 #[.slice ua c.length ug, .agg #[.int .i64 s'.p, .int .i64 (s'.c 0), .int .i64 (s'.c 1), .int .i64 (s'.c 2), .int .i64 (s'.c 3), .int .i64 (s'.c 4), .int .i64 (s'.c 5), .bool s'.f]] W fun e w' => e = .returned .nilIface ∧ Below W.heap.size W w') := fun W hb => by
    have := rcheck_any c (.slice ua c.length ug) s' W (hfm.all hb) (hops.all hb)
    rw [hrc] at this
    exact this
  have hkb := h.lt.1
  have c0 := h.c0
  rw [hcv] at c0
  have c3 := h.c3
  rw [hrk] at c3
  have hri : (r : Int) < (p.code.length : Int) := by omega
  obtain ⟨s, hsr⟩ : ∃ s, k.rooms[r]? = some s := ⟨_, List.getElem?_eq_getElem (by omega)⟩
  have H : Hid (GK w base p k kb a) := h
  have HSR : Hid (k.rooms[r]? = some s) := hsr
  have hA : Below w.heap.size w (w.alloc (.cells #[.int .i64 s'.p, .int .i64 (s'.c 0), .int .i64 (s'.c 1), .int .i64 (s'.c 2), .int .i64 (s'.c 3), .int .i64 (s'.c 4), .int .i64 (s'.c 5), .bool s'.f] 47)) := (Below.refl _ _).alloc (Nat.le_refl _) _
  have hB : StB (w.alloc (.cells #[.int .i64 s'.p, .int .i64 (s'.c 0), .int .i64 (s'.c 1), .int .i64 (s'.c 2), .int .i64 (s'.c 3), .int .i64 (s'.c 4), .int .i64 (s'.c 5), .bool s'.f] 47)) w.heap.size s' := World.alloc_heap_new _ _
  have hnk := World.new_ne w ⟨kb, 3, none⟩ c3
  unfold stA
  clear h hs hcd hops hcy hrc hsr hcv hcz hk hfm
  go_enter Tryz.func39, Tryz.ntmps39
  go_upto_region 3 with (go_at_call 43; refine (kbelow_yes _ _ _ (by omega) hri).mono ?_; rintro e w1 ⟨rfl, hw1⟩; subst hw1)
  generalize w.alloc (.cells #[.int .i64 s'.p, .int .i64 (s'.c 0), .int .i64 (s'.c 1), .int .i64 (s'.c 2), .int .i64 (s'.c 3), .int .i64 (s'.c 4), .int .i64 (s'.c 5), .bool s'.f] 47) = W0 at hA hB ⊢
  have k0 : W0.cell? ⟨kb, 0, none⟩ = some (.slice (some ⟨cb, co, none⟩) p.code.length cc) := (hA.cell (p := ⟨kb, 0, none⟩) hkb).trans c0
  have k1 : W0.cell? ⟨cb, co + r, none⟩ = some (.slice ua c.length ug) := (hA.cell (p := ⟨cb, co + r, none⟩) hclt).trans hcc
  obtain ⟨n0, n1, n2, n3, n4, n5, n6, n7⟩ := hB.cs
  simp only [Nat.zero_add] at n1 n2 n3 n4 n5 n6 n7
  have bQ : Below w.heap.size w W0.drew := hA.drew
  go_cut [7] from 17 to 25 (fun s7 wx => s7 = .nilIface ∧ Below W0.heap.size W0 wx)
  case first =>
    go_region_with (go_at_call 53; refine (HC.out _ bQ).mono ?_; rintro e w1 ⟨rfl, b1⟩)
    all_goals
      go_wp2_with fail
      go_meet
      case rel => exact ⟨rfl, (Below.refl _ W0).drew.trans (b1.mono (Nat.le_refl _))⟩
  case rest =>
  obtain ⟨rfl, hb2⟩ := hcut
  have hb3 : Below w.heap.size w wc := hA.trans (hb2.mono hA.size)
  have hB3 : StB wc w.heap.size s' := (hb2.block _ (Array.getElem?_eq_some_iff.1 hB).1).trans hB
  clear n0 n1 n2 n3 n4 n5 n6 n7 k0 k1 hB hA hb2 bQ HC
  generalize wc = W3 at *
  obtain ⟨n0, n1, n2, n3, n4, n5, n6, n7⟩ := hB3.cs
  simp only [Nat.zero_add] at n1 n2 n3 n4 n5 n6 n7
  have D := H.out.all hb3
  have k3 := D.c3
  rw [hrk] at k3
  have hth : ∀ nq, (W3.drewN nq).there a.rb (r * 8) 8 := fun nq => there_st (D.rooms r s HSR.out) D.rf nq
  go_upto_region 6 with fail
  go_cut [29] from 29 to 35 (fun _ wx => ∃ nq, wx = setSt (W3.drewN nq) a.rb (r * 8) s')
  case first =>
    refine wp_region_quiet_last (by kernel_rfl) rfl (by decide +kernel) (by decide +kernel) ?_
    simp only [List.dropLast_cons_cons, List.dropLast_singleton]
    repeat (go_big_quiet_step (fail))
    refine wpQuiet_nil ?_
    intro _ hw'
    obtain ⟨nq, hw''⟩ := hw'
    subst hw''
    refine wp_store_mid _ _ _ rfl a.rb (r * 8) _ rfl rfl (hth nq) rfl (by simp [Value.oneCell']) ?_
    go_wp2_with fail
    go_meet
    case rel => exact ⟨nq, rfl⟩
  case rest =>
  obtain ⟨nq, hwx⟩ := hcut
  have bN : Below W3.heap.size W3 (W3.drewN nq) := below_dN (Below.refl _ _) nq
  have D9 := (D.all bN).set HSR.out s'
  have tk9 : KTouch [a.rb] W3 (setSt (W3.drewN nq) a.rb (r * 8) s') := (KTouch.of bN).trans (setSt_touch _ (by simp) _ _)
  rw [← hwx] at D9 tk9
  have tkw : KTouch [a.rb] w wc := (KTouch.of hb3).trans tk9
  clear hwx
  go_wp2
  go_ret
  exact ⟨rfl, D9, tkw⟩
end Go.Proofs.YtajfgmlockjmhafGreatDoor
namespace Go.Proofs.YtajfgmlockjmhafGreatDoor
open Go.RowKit

theorem stb_set {w : World} {b : Nat} {s : St} (h : StB w b s) (s' : St) : StB ((((((((w.setCell ⟨b, 0, none⟩ (.int .i64 s'.p)).setCell ⟨b, 1, none⟩ (.int .i64 (s'.c 0))).setCell ⟨b, 2, none⟩ (.int .i64 (s'.c 1))).setCell ⟨b, 3, none⟩ (.int .i64 (s'.c 2))).setCell ⟨b, 4, none⟩ (.int .i64 (s'.c 3))).setCell ⟨b, 5, none⟩ (.int .i64 (s'.c 4))).setCell ⟨b, 6, none⟩ (.int .i64 (s'.c 5))).setCell ⟨b, 7, none⟩ (.bool s'.f)) b s' := by
  have e : w.heap[b]? = _ := h
  unfold StB
  simp [World.setCell, Array.getElem?_modify, e]
theorem stb_on {w : World} {b : Nat} {s : St} (h : StB w b s) (n : Int) : StB ((w.setCell ⟨b, 7, none⟩ (.bool false)).setCell ⟨b, 0, none⟩ (.int .i64 n)) b ⟨n, s.c, false⟩ := by
  have e : w.heap[b]? = _ := h
  unfold StB
  simp [World.setCell, Array.getElem?_modify, e]
/-- The next op; behind the last is the first. -/
theorem next_op {a n : Int} (h0 : 0 ≤ a) (h1 : a < n) : (a + 1) % n = if a + 1 = n then 0 else a + 1 := by
  split
  · rename_i h
    rw [h, Int.emod_self]
  · exact Int.emod_eq_of_lt (by omega) (by omega)
set_option maxRecDepth 100000 in
set_option maxHeartbeats 8000000 in
theorem crhelp_any (p : PD) (what : List Int) (most : Int) (d : CD) (cb base : Nat) (x : CW) (r : Int) (w : World) (hfm : Forms w) (h : GC w base p what most d cb x) (hc : carE p what most = 0) (hok : COk p what most d) (hr : whoK p d.k = r) :
    Calls Tryz.prog 23 #[.pointer (some ⟨cb, 0, none⟩), .int .i64 r] w fun e w' => (∃ v, e = .returned v) ∧ GC w' base p what most (helpC p what most d) cb x ∧ KTouch (x.F cb) w w' := by
  obtain ⟨hp, hwl, hwr, hm0, hm1⟩ := carE_zero hc
  have hwr2 : -1 ≤ r ∧ (0 ≤ r → r.toNat < p.code.length) := by rw [← hr]; exact who_room hp (d.k.time % p.ticks)
  have H : Hid (GC w base p what most d cb x) := h
  have HS : Hid (Calls Tryz.prog 28 #[.pointer (some ⟨x.kb, 0, none⟩), .int .i64 r] w fun e w' => e = .returned (.tuple #[.agg #[.int .i64 (roomK d.k r).p, .int .i64 ((roomK d.k r).c 0), .int .i64 ((roomK d.k r).c 1), .int .i64 ((roomK d.k r).c 2), .int .i64 ((roomK d.k r).c 3), .int .i64 ((roomK d.k r).c 4), .int .i64 ((roomK d.k r).c 5), .bool (roomK d.k r).f], wErr (errB (noRoom d.k r))]) ∧ Below w.heap.size w w') := gstate_any p d.k x.kb base x.a r w h.k
  have HR : Hid (whoK p d.k = r) := hr
  have hrk : d.k.rooms.length = p.code.length := hok.k.rl
  have htl : d.ts.length = p.code.length := hok.tl
  have HOK : Hid (COk p what most d) := hok
  have HFM : Hid (Forms w) := hfm
  have HP : Hid (plchk p = 0) := hp
  have HF : Hid (∀ g ∈ x.F cb, g < w.heap.size) := h.flt
  have c0 := h.c0
  obtain ⟨sr, hsr⟩ : ∃ s, s = roomK d.k r := ⟨_, rfl⟩
  obtain ⟨er, her⟩ : ∃ e, e = errB (noRoom d.k r) := ⟨_, rfl⟩
  rw [← hsr, ← her] at HS
  have HSR : Hid (sr = roomK d.k r) := hsr
  have HER : Hid (er = errB (noRoom d.k r)) := her
  clear h hr hok hfm hp hc hsr her
  go_enter Tryz.func23, Tryz.ntmps23
  go_upto_region 0 with fail
  go_cut [4, 5] from 6 to 14 (fun s4 s5 wx => ∃ b, s4 = .pointer (some ⟨b, 0, none⟩) ∧ s5 = wErr er ∧ StB wx b sr ∧ w.heap.size ≤ b ∧ Below w.heap.size w wx)
  case first =>
    go_wp2_with (go_at_call 28; refine HS.out.mono ?_; rintro e w1 ⟨rfl, b1⟩)
    go_meet
    case rel =>
      exact ⟨w1.heap.size, rfl, rfl, World.alloc_heap_new _ _, b1.size, b1.alloc b1.size _⟩
  case rest =>
  obtain ⟨b, rfl, rfl, hst, hbg, hb1⟩ := hcut
  clear c0 HS
  generalize wc = W1 at *
  have D1 := H.out.all hb1
  have c0 := D1.c0
  have c1 := D1.c1
  have c2 := D1.c2
  rw [htl] at c1
  obtain ⟨n0, n1, n2, n3, n4, n5, n6, n7⟩ := hst.cs
  simp only [Nat.zero_add] at n1 n2 n3 n4 n5 n6 n7
  by_cases hneg : r < 0
  · have hno : noRoom d.k r = true := by
      unfold noRoom
      rw [decide_eq_true hneg, Bool.true_or]
    have he1 : er = 1 := by rw [HER.out, hno]; rfl
    have HX : Hid (helpC p what most d = d) := help_no (by rw [HR.out]; omega)
    rw [he1, show wErr 1 = .iface 70 (.int .i64 1) from rfl]
    clear hno he1 hneg hwr2
    go_upto_region 1 with fail
    go_quiet (fail)
    go_wp2_with fail
    first | go_end0 | ((try simp only [Exit.inBlock, Exit.then]); refine bodyPost_ret (results_none rfl _ _ _) rfl ?_)
    exact ⟨⟨_, rfl⟩, by rw [HX.out]; exact D1.all (below_dN (Below.refl _ _) _), KTouch.of (below_dN hb1 _)⟩
  · obtain ⟨rn, rfl⟩ : ∃ n : Nat, r = n := ⟨r.toNat, by omega⟩
    have hrl : rn < p.code.length := by simpa using hwr2.2 (by omega)
    have hri : (rn : Int) < (p.code.length : Int) := by omega
    have hno : noRoom d.k (rn : Int) = false := by
      unfold noRoom
      rw [Bool.or_eq_false_iff]
      exact ⟨decide_eq_false (by omega), decide_eq_false (by omega)⟩
    have he0 : er = 0 := by rw [HER.out, hno]; rfl
    rw [he0, show wErr 0 = .nilIface from rfl]
    obtain ⟨s, hs⟩ : ∃ s, d.k.rooms[rn]? = some s := ⟨_, List.getElem?_eq_getElem (by omega)⟩
    obtain ⟨t, ht⟩ : ∃ t, d.ts[rn]? = some t := ⟨_, List.getElem?_eq_getElem (by omega)⟩
    obtain ⟨wn, hw⟩ : ∃ n, what[rn]? = some n := ⟨_, List.getElem?_eq_getElem (by omega)⟩
    obtain ⟨c, hcd⟩ : ∃ c, p.code[rn]? = some c := ⟨_, List.getElem?_eq_getElem hrl⟩
    have hss : sr = s := by
      rw [HSR.out]
      unfold roomK
      rw [hno, if_neg (by decide), Int.toNat_natCast]
      simp [List.getD, hs]
    subst hss
    obtain ⟨q0, q1, q2⟩ := D1.row rn t ht
    have qf := D1.qf (rn * 3 + 2)
    have ew : what.getD rn 0 = wn := by simp [List.getD, hw]
    have ec : p.code.getD rn [] = c := by simp [List.getD, hcd]
    rw [ew] at q0
    rw [ec] at q1
    have hwn := hwr wn (List.mem_of_getElem? hw)
    have hcb : caresB what most d rn = (sr.f && (decide (0 < wn) && decide (t < most))) := by
      unfold caresB
      simp only [List.getD, hs, ht, hw, Option.getD_some]
    have hck : (chk c).2 = 0 := codesE_zero (plchk_zero HP.out).2.2.2.2.2.2.1 _ (List.mem_of_getElem? hcd)
    have hcl : c.length ≤ 20 := (chk_zero hck).2.1
    have hso := HOK.out.k.rooms rn c sr hcd hs
    obtain ⟨hsp0, hsp1, hsc⟩ := stOk_iff.1 hso
    have htb := HOK.out.ts rn t ht
    have hp5 := (plchk_zero HP.out).1
    have HNO : Hid (caresB what most d rn = false → helpC p what most d = d) := fun hcf => help_no (by rw [HR.out, Int.toNat_natCast, hcf]; simp)
    have HYES : Hid (caresB what most d rn = true → helpC p what most d = ⟨⟨d.k.rooms.set rn (helpS p what rn sr), d.k.lines, d.k.time⟩, d.ts.set rn (t + 1)⟩) := fun hct => help_yes HR.out hs ht hct
    have HHS : Hid (helpS p what rn sr = if wn = 1 then stNew else ⟨if sr.p + 1 = (c.length : Int) then 0 else sr.p + 1, sr.c, false⟩) := by
      show _ = _
      unfold helpS
      rw [ew, ec]
    have HTS : Hid (d.ts[rn]? = some t) := ht
    have HCD : Hid (p.code[rn]? = some c) := hcd
    have HWH : Hid (what[rn]? = some wn) := hw
    have HCB : Hid (caresB what most d rn = (sr.f && (decide (0 < wn) && decide (t < most)))) := hcb
    clear hno he0 hs ht hw hcd hcb hck hso hwr hwr2 hneg ew ec
    have hk0 : (sr.f = false ∨ t ≥ most) ∨ (sr.f = true ∧ t < most) := by
      cases sr.f with
      | false => exact Or.inl (Or.inl rfl)
      | true =>
        by_cases h2 : t < most
        · exact Or.inr ⟨rfl, h2⟩
        · exact Or.inl (Or.inr (by omega))
    rcases hk0 with hk1 | ⟨hf, htm⟩
    · have HX : Hid (helpC p what most d = d) := HNO.out (by
        rw [HCB.out]
        rcases hk1 with h1 | h1
        · rw [h1, Bool.false_and]
        · rw [decide_eq_false (show ¬ t < most by omega), Bool.and_false, Bool.and_false])
      have HD1 : Hid (GC W1 base p what most d cb x) := D1
      clear D1
      cases hf : sr.f with
      | false =>
        rw [hf] at n7
        clear hk1 hf
        go_upto_region 1 with fail
        go_quiet (fail)
        go_wp2_with fail
        first | go_end0 | ((try simp only [Exit.inBlock, Exit.then]); refine bodyPost_ret (results_none rfl _ _ _) rfl ?_)
        exact ⟨⟨_, rfl⟩, by rw [HX.out]; exact HD1.out.all (below_dN (Below.refl _ _) _), KTouch.of (below_dN hb1 _)⟩
      | true =>
        rw [hf] at n7
        have h2 : most ≤ t := by
          rcases hk1 with h1 | h1
          · rw [hf] at h1
            cases h1
          · exact h1
        have h2' : decide (most ≤ t) = true := decide_eq_true h2
        clear hk1 hf h2
        go_upto_region 1 with fail
        go_quiet (fail)
        go_wp2_with fail
        first | go_end0 | ((try simp only [Exit.inBlock, Exit.then]); refine bodyPost_ret (results_none rfl _ _ _) rfl ?_)
        exact ⟨⟨_, rfl⟩, by rw [HX.out]; exact HD1.out.all (below_dN (Below.refl _ _) _), KTouch.of (below_dN hb1 _)⟩
    · rw [hf] at n7
      have h2' : decide (most ≤ t) = false := decide_eq_false (by omega)
      have hne : (c.length : Int) ≠ 0 := by omega
      have hne' : ((c.length : Int) == 0) = false := by simpa using hne
      have HFT : Hid (sr.f = true) := hf
      have HST : Hid (StB W1 b sr) := hst
      clear hf D1 hst
      go_upto_region 1 with fail
      go_cut [36] from 15 to 35 (fun s36 wx => s36 = .bool false ∧ Below W1.heap.size W1 wx)
      case first =>
        go_quiet (fail)
        go_wp2_with fail
        go_meet
        case rel => exact ⟨rfl, below_dN (Below.refl _ _) _⟩
      case rest =>
      obtain ⟨rfl, hb2⟩ := hcut
      have hb3 := hb1.trans (hb2.mono hb1.size)
      have hst2 : StB wc b sr := (hb2.block _ (Array.getElem?_eq_some_iff.1 HST.out).1).trans HST.out
      clear c0 c1 c2 n0 n1 n2 n3 n4 n5 n6 n7 q0 q1 q2 qf HST
      generalize wc = W2 at *
      have D2 := H.out.all hb3
      have c0 := D2.c0
      have c1 := D2.c1
      rw [htl] at c1
      obtain ⟨n0, n1, n2, n3, n4, n5, n6, n7⟩ := hst2.cs
      simp only [Nat.zero_add] at n1 n2 n3 n4 n5 n6 n7
      obtain ⟨q0, q1, q2⟩ := D2.row rn t HTS.out
      have ew : what.getD rn 0 = wn := by simp [List.getD, HWH.out]
      rw [ew] at q0
      clear ew
      have ec : p.code.getD rn [] = c := by simp [List.getD, HCD.out]
      rw [ec] at q1
      clear ec
      have y0 := stb_fz hst2 0
      have y1 := stb_fz hst2 1
      have y2 := stb_fz hst2 2
      have y3 := stb_fz hst2 3
      have y4 := stb_fz hst2 4
      have y5 := stb_fz hst2 5
      have y6 := stb_fz hst2 6
      have y7 := stb_fz hst2 7
      have hne1 : b ≠ cb := by have := HF.out cb (by simp [CW.F]); omega
      have hne2 : b ≠ x.qb := by have := HF.out x.qb (by simp [CW.F]); omega
      by_cases hw0 : wn = 0
      · have HX : Hid (helpC p what most d = d) := HNO.out (by
          rw [HCB.out, decide_eq_false (show ¬ 0 < wn by omega), Bool.false_and, Bool.and_false])
        subst hw0
        have HD2 : Hid (GC W2 base p what most d cb x) := D2
        clear D2 hst2
        go_step
        go_wp2_with fail
        first | go_end0 | ((try simp only [Exit.inBlock, Exit.then]); refine bodyPost_ret (results_none rfl _ _ _) rfl ?_)
        exact ⟨⟨_, rfl⟩, by rw [HX.out]; exact HD2.out, KTouch.of hb3⟩
      · have HX : Hid (helpC p what most d = ⟨⟨d.k.rooms.set rn (helpS p what rn sr), d.k.lines, d.k.time⟩, d.ts.set rn (t + 1)⟩) := HYES.out (by
          rw [HCB.out, HFT.out, decide_eq_true (show 0 < wn by omega), decide_eq_true htm]
          rfl)
        have hw0' : (wn == 0) = false := by simpa using hw0
        by_cases hw1 : wn = 1
        · have HY : Hid (helpS p what rn sr = stNew) := by
            show _ = _
            rw [HHS.out, if_pos hw1]
          have HSO : Hid (∀ c', p.code[rn]? = some c' → stOk stNew c'.length = true) := fun c' hc' => by
            rw [HCD.out] at hc'
            obtain rfl := Option.some.inj hc'
            refine stOk_iff.2 ⟨Int.le_refl _, ?_, fun i _ => ⟨Int.le_refl _, by simp [stNew]⟩⟩
            show (0 : Int) < _
            omega
          have HRn : Hid (∀ W, Calls Tryz.prog 34 #[] W fun e w' => e = .returned (.agg #[.int .i64 0, .int .i64 0, .int .i64 0, .int .i64 0, .int .i64 0, .int .i64 0, .int .i64 0, .bool false]) ∧ Below W.heap.size W w') := fun W => new_any W
          subst hw1
          have HST : Hid (StB W2 b sr) := hst2
          clear D2 hst2 q1 hw0 hw0'
          go_step
          go_upto_region 8 with (go_at_call 34; refine (HRn.out _).mono ?_; rintro e w3 ⟨rfl, b3⟩; have hst3 : StB w3 b sr := (b3.block _ (Array.getElem?_eq_some_iff.1 HST.out).1).trans HST.out; obtain ⟨m0, m1, m2, m3, m4, m5, m6, m7⟩ := hst3.cs; simp only [Nat.zero_add] at m1 m2 m3 m4 m5 m6 m7; have z0 := stb_fz hst3 0; have z1 := stb_fz hst3 1; have z2 := stb_fz hst3 2; have z3 := stb_fz hst3 3; have z4 := stb_fz hst3 4; have z5 := stb_fz hst3 5; have z6 := stb_fz hst3 6; have z7 := stb_fz hst3 7)
          have hst4 : StB ((((((((w3.setCell ⟨b, 0, none⟩ (.int .i64 0)).setCell ⟨b, 1, none⟩ (.int .i64 0)).setCell ⟨b, 2, none⟩ (.int .i64 0)).setCell ⟨b, 3, none⟩ (.int .i64 0)).setCell ⟨b, 4, none⟩ (.int .i64 0)).setCell ⟨b, 5, none⟩ (.int .i64 0)).setCell ⟨b, 6, none⟩ (.int .i64 0)).setCell ⟨b, 7, none⟩ (.bool false)) b stNew := stb_set hst3 stNew
          have hb4 : Below w.heap.size w ((((((((w3.setCell ⟨b, 0, none⟩ (.int .i64 0)).setCell ⟨b, 1, none⟩ (.int .i64 0)).setCell ⟨b, 2, none⟩ (.int .i64 0)).setCell ⟨b, 3, none⟩ (.int .i64 0)).setCell ⟨b, 4, none⟩ (.int .i64 0)).setCell ⟨b, 5, none⟩ (.int .i64 0)).setCell ⟨b, 6, none⟩ (.int .i64 0)).setCell ⟨b, 7, none⟩ (.bool false)) := below_st8 (hb3.trans (b3.mono hb3.size)) b hbg _ _ _ _ _ _ _ _
          clear m0 m1 m2 m3 m4 m5 m6 m7 z0 z1 z2 z3 z4 z5 z6 z7 y0 y1 y2 y3 y4 y5 y6 y7 n0 n1 n2 n3 n4 n5 n6 n7 c0 c1 q0 q2 hst3 HRn
          generalize ((((((((w3.setCell ⟨b, 0, none⟩ (.int .i64 0)).setCell ⟨b, 1, none⟩ (.int .i64 0)).setCell ⟨b, 2, none⟩ (.int .i64 0)).setCell ⟨b, 3, none⟩ (.int .i64 0)).setCell ⟨b, 4, none⟩ (.int .i64 0)).setCell ⟨b, 5, none⟩ (.int .i64 0)).setCell ⟨b, 6, none⟩ (.int .i64 0)).setCell ⟨b, 7, none⟩ (.bool false)) = W5 at hst4 hb4 ⊢
          have D5 := H.out.all hb4
          have HD5 : Hid (GC W5 base p what most d cb x) := D5
          have c0 := D5.c0
          have hput : Calls Tryz.prog 39 #[.pointer (some ⟨x.kb, 0, none⟩), .int .i64 rn, stA stNew] W5.drew fun e w' => e = .returned .nilIface ∧ GK w' base p ⟨d.k.rooms.set rn stNew, d.k.lines, d.k.time⟩ x.kb x.a ∧ KTouch [x.a.rb] W5.drew w' := gput_ok p d.k x.kb base x.a rn stNew W5.drew (HFM.out.all hb4.drew) (D5.k.all (Below.refl _ _).drew) HP.out HOK.out.k hrl HSO.out
          unfold stA at hput
          obtain ⟨m0, m1, m2, m3, m4, m5, m6, m7⟩ := hst4.cs
          simp only [Nat.zero_add] at m1 m2 m3 m4 m5 m6 m7
          clear D5
          go_cut [73] from 66 to 72 (fun s73 wx => s73 = .bool true ∧ GK wx base p ⟨d.k.rooms.set rn stNew, d.k.lines, d.k.time⟩ x.kb x.a ∧ KTouch [x.a.rb] W5 wx)
          case first =>
            go_region_with (go_at_call 39; refine hput.mono ?_; rintro e w6 ⟨rfl, hgk, tk6⟩)
            all_goals
              go_wp2_with fail
              go_meet
              case rel => exact ⟨rfl, hgk, (KTouch.of (Below.refl _ _).drew).trans tk6⟩
          case rest =>
          obtain ⟨rfl, hgk, tk6⟩ := hcut
          have D6 : GC wc base p what most ⟨⟨d.k.rooms.set rn stNew, d.k.lines, d.k.time⟩, d.ts⟩ cb x := HD5.out.kern (tk6.mono (by simp [GW.F])) hgk (fun g hg => Or.inl hg)
          have tkw : KTouch (x.F cb) w wc := (KTouch.of hb4).trans (tk6.mono (by simp [CW.F, GW.F]))
          clear m0 m1 m2 m3 m4 m5 m6 m7 c0 hput hgk tk6 hst4
          generalize wc = W7 at *
          have c1 := D6.c1
          simp only at c1
          rw [htl] at c1
          obtain ⟨_, _, q2⟩ := D6.row rn t HTS.out
          have qf := D6.qf (rn * 3 + 2)
          have HD7 : Hid (GC (W7.setCell ⟨x.qb, rn * 3 + 2, none⟩ (.int .i64 (t + 1))) base p what most (helpC p what most d) cb x) := by
            show GC _ _ _ _ _ _ _ _
            rw [HX.out, HY.out]
            exact D6.times HTS.out (t + 1)
          have htl2 : t + 1 ≤ 9223372036854775807 := by omega
          clear D6
          go_step
          go_wp2_with fail
          first | go_end0 | ((try simp only [Exit.inBlock, Exit.then]); refine bodyPost_ret (results_none rfl _ _ _) rfl ?_)
          exact ⟨⟨_, rfl⟩, HD7.out, tkw.trans (KTouch.set W7 (by simp [CW.F]) _ _)⟩
        · have hw2 : wn = 2 := by omega
          subst hw2
          obtain ⟨s2, hs2⟩ : ∃ s2 : St, s2 = ⟨(sr.p + 1) % (c.length : Int), sr.c, false⟩ := ⟨_, rfl⟩
          have HS2 : Hid (s2 = ⟨(sr.p + 1) % (c.length : Int), sr.c, false⟩) := hs2
          have HY : Hid (helpS p what rn sr = s2) := by
            show _ = _
            rw [HHS.out, if_neg (by decide), hs2, next_op hsp0 hsp1]
          have HSO : Hid (∀ c', p.code[rn]? = some c' → stOk s2 c'.length = true) := fun c' hc' => by
            rw [HCD.out] at hc'
            rw [hs2]
            obtain rfl := Option.some.inj hc'
            exact stOk_iff.2 ⟨Int.emod_nonneg _ hne, Int.emod_lt_of_pos _ (by omega), hsc⟩
          have HST : Hid (StB W2 b sr) := hst2
          clear D2 hst2 hw0 hw1 hw0' hs2
          go_step
          go_upto_region 7 with fail
          have hwrap : IntKind.i64.wrap (sr.p + 1) = sr.p + 1 := IntWalk.i64_in _ (by omega)
          have htmod : (sr.p + 1).tmod (c.length : Int) = (sr.p + 1) % (c.length : Int) := Int.tmod_eq_emod_of_nonneg (by omega)
          have hcn : ¬ c = [] := fun e => by rw [e] at hne; exact hne rfl
          refine wp_region_popped (fun W => W.cell? ⟨b, 0, none⟩ = some (.int .i64 sr.p) ∧ W.cell? ⟨cb, 1, none⟩ = some (.slice (some ⟨x.qb, 0, none⟩) p.code.length x.qcap) ∧ W.cell? ⟨x.qb, rn * 3 + 1, none⟩ = some (.int .i64 (c.length : Nat))) (by kernel_rfl) rfl (by decide +kernel) ⟨n0, c1, q1⟩ (fun hHeld => ?_)
          simp only [List.pop_toArray, List.dropLast_cons_cons, List.dropLast_singleton, List.size_toArray, List.length_cons, List.length_nil, Nat.reduceAdd, Array.replicate_succ, Array.replicate_zero, List.push_toArray, List.nil_append, List.cons_append]
          refine wpAnyH_take (i := 0) (v := ?_) rfl (by decide +kernel) (by decide +kernel) (by decide +kernel) (fun _ _ _ h => h) (Or.inl ⟨by rfl, ?_⟩) (by assumption) ?_
          rotate_left
          · intro W hSw
            try dsimp only at hSw
            obtain ⟨hS1, hS2, hS3⟩ := hSw
            go_simp
            try with_reducible rfl
          simp only [Act.put, List.setIfInBounds_toArray, List.set_cons_zero]
          refine wpAnyH_take (i := 1) (v := ?_) rfl (by decide +kernel) (by decide +kernel) (by decide +kernel) (fun _ _ _ h => h) (Or.inl ⟨by rfl, ?_⟩) (by assumption) ?_
          rotate_left
          · intro W hSw
            try dsimp only at hSw
            obtain ⟨hS1, hS2, hS3⟩ := hSw
            go_simp
            try with_reducible rfl
          simp only [Act.put, List.setIfInBounds_toArray, List.set_cons_zero, List.set_cons_succ]
          refine wpAnyH_take (i := 2) (v := .int .i64 (sr.p + 1)) rfl (by decide +kernel) (by decide +kernel) (by decide +kernel) (fun _ _ _ h => h) (Or.inl ⟨by rfl, ?_⟩) (by assumption) ?_
          · intro W hSw
            try dsimp only at hSw
            obtain ⟨hS1, hS2, hS3⟩ := hSw
            go_simp
          simp only [Act.put, List.setIfInBounds_toArray, List.set_cons_zero, List.set_cons_succ]
          refine wpAnyH_take (i := 3) (v := ?_) rfl (by decide +kernel) (by decide +kernel) (by decide +kernel) (fun _ _ _ h => h) (Or.inl ⟨by rfl, ?_⟩) (by assumption) ?_
          rotate_left
          · intro W hSw
            try dsimp only at hSw
            obtain ⟨hS1, hS2, hS3⟩ := hSw
            go_simp
            try with_reducible rfl
          simp only [Act.put, List.setIfInBounds_toArray, List.set_cons_zero, List.set_cons_succ]
          refine wpAnyH_take (i := 4) (v := ?_) rfl (by decide +kernel) (by decide +kernel) (by decide +kernel) (fun _ _ _ h => h) (Or.inl ⟨by rfl, ?_⟩) (by assumption) ?_
          rotate_left
          · intro W hSw
            try dsimp only at hSw
            obtain ⟨hS1, hS2, hS3⟩ := hSw
            go_simp
            try with_reducible rfl
          simp only [Act.put, List.setIfInBounds_toArray, List.set_cons_zero, List.set_cons_succ]
          refine wpAnyH_take (i := 5) (v := ?_) rfl (by decide +kernel) (by decide +kernel) (by decide +kernel) (fun _ _ _ h => h) (Or.inl ⟨by rfl, ?_⟩) (by assumption) ?_
          rotate_left
          · intro W hSw
            try dsimp only at hSw
            obtain ⟨hS1, hS2, hS3⟩ := hSw
            go_simp
            try with_reducible rfl
          simp only [Act.put, List.setIfInBounds_toArray, List.set_cons_zero, List.set_cons_succ]
          refine wpAnyH_take (i := 6) (v := ?_) rfl (by decide +kernel) (by decide +kernel) (by decide +kernel) (fun _ _ _ h => h) (Or.inl ⟨by rfl, ?_⟩) (by assumption) ?_
          rotate_left
          · intro W hSw
            try dsimp only at hSw
            obtain ⟨hS1, hS2, hS3⟩ := hSw
            go_simp
            try with_reducible rfl
          simp only [Act.put, List.setIfInBounds_toArray, List.set_cons_zero, List.set_cons_succ]
          refine wpAnyH_take (i := 7) (v := ?_) rfl (by decide +kernel) (by decide +kernel) (by decide +kernel) (fun _ _ _ h => h) (Or.inl ⟨by rfl, ?_⟩) (by assumption) ?_
          rotate_left
          · intro W hSw
            try dsimp only at hSw
            obtain ⟨hS1, hS2, hS3⟩ := hSw
            go_simp
            try with_reducible rfl
          simp only [Act.put, List.setIfInBounds_toArray, List.set_cons_zero, List.set_cons_succ]
          refine wpAnyH_take (i := 8) (v := ?_) rfl (by decide +kernel) (by decide +kernel) (by decide +kernel) (fun _ _ _ h => h) (Or.inl ⟨by rfl, ?_⟩) (by assumption) ?_
          rotate_left
          · intro W hSw
            try dsimp only at hSw
            obtain ⟨hS1, hS2, hS3⟩ := hSw
            go_simp
            try with_reducible rfl
          simp only [Act.put, List.setIfInBounds_toArray, List.set_cons_zero, List.set_cons_succ]
          refine wpAnyH_take (i := 9) (v := ?_) rfl (by decide +kernel) (by decide +kernel) (by decide +kernel) (fun _ _ _ h => h) (Or.inl ⟨by rfl, ?_⟩) (by assumption) ?_
          rotate_left
          · intro W hSw
            try dsimp only at hSw
            obtain ⟨hS1, hS2, hS3⟩ := hSw
            go_simp
            try with_reducible rfl
          simp only [Act.put, List.setIfInBounds_toArray, List.set_cons_zero, List.set_cons_succ]
          refine wpAnyH_take (i := 10) (v := ?_) rfl (by decide +kernel) (by decide +kernel) (by decide +kernel) (fun _ _ _ h => h) (Or.inl ⟨by rfl, ?_⟩) (by assumption) ?_
          rotate_left
          · intro W hSw
            try dsimp only at hSw
            obtain ⟨hS1, hS2, hS3⟩ := hSw
            go_simp
            try with_reducible rfl
          simp only [Act.put, List.setIfInBounds_toArray, List.set_cons_zero, List.set_cons_succ]
          refine wpAnyH_take (i := 11) (v := .int .i64 ((sr.p + 1) % (c.length : Int))) rfl (by decide +kernel) (by decide +kernel) (by decide +kernel) (fun _ _ _ h => h) (Or.inl ⟨by rfl, ?_⟩) (by assumption) ?_
          · intro W hSw
            try dsimp only at hSw
            obtain ⟨hS1, hS2, hS3⟩ := hSw
            go_simp
          simp only [Act.put, List.setIfInBounds_toArray, List.set_cons_zero, List.set_cons_succ]
          refine wpAnyH_take (i := 12) (v := ?_) rfl (by decide +kernel) (by decide +kernel) (by decide +kernel) (fun _ _ _ h => h) (Or.inl ⟨by rfl, ?_⟩) (by assumption) ?_
          rotate_left
          · intro W hSw
            try dsimp only at hSw
            obtain ⟨hS1, hS2, hS3⟩ := hSw
            go_simp
            try with_reducible rfl
          simp only [Act.put, List.setIfInBounds_toArray, List.set_cons_zero, List.set_cons_succ]
          refine wpAnyH_ready (rs := [13]) (by decide +kernel) (by simp) ?_
          refine AllReadyH.cons (o := _) rfl (fun K hK => ?_) AllReadyH.nil
          go_simp
          have s1 : (W2.drew.setCell ⟨b, 7, none⟩ (.bool false)).cell? ⟨b, 0, none⟩ = some (.int .i64 sr.p) := by rw [setCell_far (by decide)]; exact n0
          have hbS : Below w.heap.size w (W2.drew.setCell ⟨b, 7, none⟩ (.bool false)) := hb3.drew.setCell (p := ⟨b, 7, none⟩) hbg _
          have DS := H.out.all hbS
          have e2 := DS.c1
          rw [htl] at e2
          have s3 := (DS.row rn t HTS.out).2.1
          rw [show p.code.getD rn [] = c by simp [List.getD, HCD.out]] at s3
          refine hK.out _ _ ⟨s1, e2, s3⟩ (fun hHeld => ?_)
          clear hK K DS
          simp only [List.setIfInBounds_toArray, List.set_cons_zero, List.set_cons_succ]
          refine wpAnyH_take (i := 14) (v := ?_) rfl (by decide +kernel) (by decide +kernel) (by decide +kernel) (fun _ _ _ h => h) (Or.inl ⟨by rfl, ?_⟩) (by assumption) ?_
          rotate_left
          · intro W hSw
            try dsimp only at hSw
            obtain ⟨hS1, hS2, hS3⟩ := hSw
            go_simp
            try with_reducible rfl
          simp only [Act.put, List.setIfInBounds_toArray, List.set_cons_zero, List.set_cons_succ]
          refine wpAnyH_done (by decide +kernel) ?_ _
          show Oper.wp _ _ _ _ _ _
          go_simp
          have hst4 : StB (((W2.setCell ⟨b, 7, none⟩ (.bool false)).setCell ⟨b, 0, none⟩ (.int .i64 ((sr.p + 1) % (c.length : Int)))).drew) b s2 := by
            rw [HS2.out]
            exact stb_on (w := W2) HST.out ((sr.p + 1) % (c.length : Int))
          have hb4 : Below w.heap.size w (((W2.setCell ⟨b, 7, none⟩ (.bool false)).setCell ⟨b, 0, none⟩ (.int .i64 ((sr.p + 1) % (c.length : Int)))).drew) := ((hb3.setCell (p := ⟨b, 7, none⟩) hbg _).setCell (p := ⟨b, 0, none⟩) hbg _).drew
          clear s1 e2 s3 hbS hHeld y0 y1 y2 y3 y4 y5 y6 y7 n0 n1 n2 n3 n4 n5 n6 n7 c0 c1 q0 q1 q2
          generalize ((W2.setCell ⟨b, 7, none⟩ (.bool false)).setCell ⟨b, 0, none⟩ (.int .i64 ((sr.p + 1) % (c.length : Int)))).drew = W5 at hst4 hb4 ⊢
          go_upto_region 8 with fail
          have D5 := H.out.all hb4
          have HD5 : Hid (GC W5 base p what most d cb x) := D5
          have c0 := D5.c0
          have hput : Calls Tryz.prog 39 #[.pointer (some ⟨x.kb, 0, none⟩), .int .i64 rn, stA s2] W5.drew fun e w' => e = .returned .nilIface ∧ GK w' base p ⟨d.k.rooms.set rn s2, d.k.lines, d.k.time⟩ x.kb x.a ∧ KTouch [x.a.rb] W5.drew w' := gput_ok p d.k x.kb base x.a rn s2 W5.drew (HFM.out.all hb4.drew) (D5.k.all (Below.refl _ _).drew) HP.out HOK.out.k hrl HSO.out
          unfold stA at hput
          obtain ⟨m0, m1, m2, m3, m4, m5, m6, m7⟩ := hst4.cs
          simp only [Nat.zero_add] at m1 m2 m3 m4 m5 m6 m7
          clear D5
          go_cut [73] from 66 to 72 (fun s73 wx => s73 = .bool true ∧ GK wx base p ⟨d.k.rooms.set rn s2, d.k.lines, d.k.time⟩ x.kb x.a ∧ KTouch [x.a.rb] W5 wx)
          case first =>
            go_region_with (go_at_call 39; refine hput.mono ?_; rintro e w6 ⟨rfl, hgk, tk6⟩)
            all_goals
              go_wp2_with fail
              go_meet
              case rel => exact ⟨rfl, hgk, (KTouch.of (Below.refl _ _).drew).trans tk6⟩
          case rest =>
          obtain ⟨rfl, hgk, tk6⟩ := hcut
          have D6 : GC wc base p what most ⟨⟨d.k.rooms.set rn s2, d.k.lines, d.k.time⟩, d.ts⟩ cb x := HD5.out.kern (tk6.mono (by simp [GW.F])) hgk (fun g hg => Or.inl hg)
          have tkw : KTouch (x.F cb) w wc := (KTouch.of hb4).trans (tk6.mono (by simp [CW.F, GW.F]))
          clear m0 m1 m2 m3 m4 m5 m6 m7 c0 hput hgk tk6 hst4
          generalize wc = W7 at *
          have c1 := D6.c1
          simp only at c1
          rw [htl] at c1
          obtain ⟨_, _, q2⟩ := D6.row rn t HTS.out
          have qf := D6.qf (rn * 3 + 2)
          have HD7 : Hid (GC (W7.setCell ⟨x.qb, rn * 3 + 2, none⟩ (.int .i64 (t + 1))) base p what most (helpC p what most d) cb x) := by
            show GC _ _ _ _ _ _ _ _
            rw [HX.out, HY.out]
            exact D6.times HTS.out (t + 1)
          have htl2 : t + 1 ≤ 9223372036854775807 := by omega
          clear D6
          go_step
          go_wp2_with fail
          first | go_end0 | ((try simp only [Exit.inBlock, Exit.then]); refine bodyPost_ret (results_none rfl _ _ _) rfl ?_)
          exact ⟨⟨_, rfl⟩, HD7.out, tkw.trans (KTouch.set W7 (by simp [CW.F]) _ _)⟩
end Go.Proofs.YtajfgmlockjmhafGreatDoor

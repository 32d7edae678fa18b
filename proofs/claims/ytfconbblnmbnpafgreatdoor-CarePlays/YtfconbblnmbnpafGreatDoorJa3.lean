/-
  Fits, Check, RoomBase, RoomParts, RoomNew, RoomCheck, Law: joined into one text.
-/
import Derived.Test.YtfconbblnmbnpafGreatDoorJa1
import Derived.Test.YtfconbblnmbnpafGreatDoorRows
import Derived.ProofKit
import Derived.LaidMore
import Derived.OpenShut
import Derived.Carry
import Derived.Stop.Joined
namespace Go.Proofs.YtfconbblnmbnpafGreatDoor
open Go.RowKit

theorem ix0 (x y : Int) (w : World) : (Instr.index 173 (.agg #[.int .i64 x, .int .i64 y]) (.int .i64 0)).run Tryz.prog w = .ok (.int .i64 x) w := by kernel_rfl
theorem ix1 (x y : Int) (w : World) : (Instr.index 173 (.agg #[.int .i64 x, .int .i64 y]) (.int .i64 1)).run Tryz.prog w = .ok (.int .i64 y) w := by kernel_rfl

def bd (p ops : Int) : Int := if p = 0 then ops else p
def fit2 (p q a b ops : Int) : Bool := decide (0 ≤ a ∧ a < bd p ops ∧ 0 ≤ b ∧ b < bd q ops)
theorem bd_zero (ops : Int) : bd 0 ops = ops := rfl
theorem bd_not {p : Int} (h : p ≠ 0) (ops : Int) : bd p ops = p := by simp [bd, h]
theorem fit2_no1 {p q a b ops : Int} (h : a < 0 ∨ bd p ops ≤ a) : fit2 p q a b ops = false := by unfold fit2; simp only [decide_eq_false_iff_not]; omega
theorem fit2_no2 {p q a b ops : Int} (h : b < 0 ∨ bd q ops ≤ b) : fit2 p q a b ops = false := by unfold fit2; simp only [decide_eq_false_iff_not]; omega
theorem fit2_yes {p q a b ops : Int} (h1 : 0 ≤ a) (h2 : a < bd p ops) (h3 : 0 ≤ b) (h4 : b < bd q ops) : fit2 p q a b ops = true := by unfold fit2; simp only [decide_eq_true_eq]; omega

set_option maxRecDepth 100000 in
set_option maxHeartbeats 4000000 in
theorem fits_at (n : Nat) (a b ops p q : Int) (h1 : 1 ≤ n) (h2 : n ≤ 11) (w : World) (c1 : w.cell? ⟨1, n * 3 + 1, none⟩ = some (.int .i64 p)) (c2 : w.cell? ⟨1, n * 3 + 2, none⟩ = some (.int .i64 q)) :
    Calls Tryz.prog 86 #[.agg #[.int .i64 n, .int .i64 a, .int .i64 b], .int .i64 ops] w fun e w' => e = .returned (.bool (fit2 p q a b ops)) ∧ Below w.heap.size w w' := by
  have hlt := lt_of_cell c1
  have i0 := ix0 a b
  have i1 := ix1 a b
  go_enter Tryz.func86, Tryz.ntmps86
  go_wp2
  clear c1 c2
  go_loop [27] (fun i => i = .int .i64 0 ∨ (i = .int .i64 1 ∧ 0 ≤ a ∧ a < bd p ops) ∨ (i = .int .i64 2 ∧ 0 ≤ a ∧ a < bd p ops ∧ 0 ≤ b ∧ b < bd q ops)) (fun i => 2 - (intOf i).toNat)
  case atStart => exact Or.inl rfl
  case round =>
    rcases hrel with rfl | ⟨rfl, ha0, ha1⟩ | ⟨rfl, ha0, ha1, hb0, hb1⟩
    · by_cases hp : p = 0
      · subst hp
        by_cases hA : 0 ≤ a ∧ a < ops
        · obtain ⟨hA1, hA2⟩ := hA
          go_wp2
          go_round
          case rel => exact Or.inr (Or.inl ⟨rfl, hA1, by rw [bd_zero]; exact hA2⟩)
          case measure => simp [intOf]
        · go_wp2
          all_goals first | (go_ret; exact ⟨ret_bool (fit2_no1 (by rw [bd_zero]; omega)).symm, ((Below.refl _ _).alloc (Nat.le_refl _) _).alloc (by simp) _⟩) | (exfalso; omega)
      · have hp' : (p == 0) = false := by simpa using hp
        by_cases hA : 0 ≤ a ∧ a < p
        · obtain ⟨hA1, hA2⟩ := hA
          go_wp2
          go_round
          case rel => exact Or.inr (Or.inl ⟨rfl, hA1, by rw [bd_not hp]; exact hA2⟩)
          case measure => simp [intOf]
        · go_wp2
          all_goals first | (go_ret; exact ⟨ret_bool (fit2_no1 (by rw [bd_not hp]; omega)).symm, ((Below.refl _ _).alloc (Nat.le_refl _) _).alloc (by simp) _⟩) | (exfalso; omega)
    · have HA : Hid (0 ≤ a ∧ a < bd p ops) := ⟨ha0, ha1⟩
      clear ha0 ha1
      by_cases hq : q = 0
      · subst hq
        by_cases hB : 0 ≤ b ∧ b < ops
        · obtain ⟨hB1, hB2⟩ := hB
          go_wp2
          go_round
          case rel => exact Or.inr (Or.inr ⟨rfl, HA.out.1, HA.out.2, hB1, by rw [bd_zero]; exact hB2⟩)
          case measure => simp [intOf]
        · go_wp2
          all_goals first | (go_ret; exact ⟨ret_bool (fit2_no2 (by rw [bd_zero]; omega)).symm, ((Below.refl _ _).alloc (Nat.le_refl _) _).alloc (by simp) _⟩) | (exfalso; omega)
      · have hq' : (q == 0) = false := by simpa using hq
        by_cases hB : 0 ≤ b ∧ b < q
        · obtain ⟨hB1, hB2⟩ := hB
          go_wp2
          go_round
          case rel => exact Or.inr (Or.inr ⟨rfl, HA.out.1, HA.out.2, hB1, by rw [bd_not hq]; exact hB2⟩)
          case measure => simp [intOf]
        · go_wp2
          all_goals first | (go_ret; exact ⟨ret_bool (fit2_no2 (by rw [bd_not hq]; omega)).symm, ((Below.refl _ _).alloc (Nat.le_refl _) _).alloc (by simp) _⟩) | (exfalso; omega)
    · have HF := fit2_yes ha0 ha1 hb0 hb1
      clear ha0 ha1 hb0 hb1
      have HF' : Hid (fit2 p q a b ops = true) := HF
      clear HF
      go_wp2
      go_ret
      exact ⟨ret_bool HF'.out.symm, ((Below.refl _ _).alloc (Nat.le_refl _) _).alloc (by simp) _⟩

theorem forms_at {w : World} (hf : Forms w) (n : Nat) (h1 : 1 ≤ n) (h2 : n ≤ 11) : w.cell? ⟨1, n * 3 + 1, none⟩ = some (.int .i64 (pA n)) ∧ w.cell? ⟨1, n * 3 + 2, none⟩ = some (.int .i64 (pB n)) := by
  have h : n = 1 ∨ n = 2 ∨ n = 3 ∨ n = 4 ∨ n = 5 ∨ n = 6 ∨ n = 7 ∨ n = 8 ∨ n = 9 ∨ n = 10 ∨ n = 11 := by omega
  rcases h with rfl | rfl | rfl | rfl | rfl | rfl | rfl | rfl | rfl | rfl | rfl <;> exact ⟨hf _ _ rfl, hf _ _ rfl⟩
theorem fit2_fitsB (n : Nat) (a b ops : Int) (h1 : 1 ≤ n) (h2 : n ≤ 11) : fit2 (pA n) (pB n) a b ops = fitsB n a b ops := by
  have h : n = 1 ∨ n = 2 ∨ n = 3 ∨ n = 4 ∨ n = 5 ∨ n = 6 ∨ n = 7 ∨ n = 8 ∨ n = 9 ∨ n = 10 ∨ n = 11 := by omega
  rcases h with rfl | rfl | rfl | rfl | rfl | rfl | rfl | rfl | rfl | rfl | rfl <;> simp [fit2, fitsB, pA, pB, bA, bB, bd]

set_option maxRecDepth 100000 in
set_option maxHeartbeats 1000000 in
theorem fits_out (n a b ops : Int) (hn : n < 1 ∨ 11 < n) (w : World) :
    Calls Tryz.prog 86 #[.agg #[.int .i64 n, .int .i64 a, .int .i64 b], .int .i64 ops] w fun e w' => e = .returned (.bool (fitsB n a b ops)) ∧ Below w.heap.size w w' := by
  rcases hn with h | h
  · go_enter Tryz.func86, Tryz.ntmps86
    go_wp2
    go_ret
    exact ⟨ret_bool (fitsB_lo h).symm, (Below.refl _ _).alloc (Nat.le_refl _) _⟩
  · have h' : ¬ n < 1 := by omega
    go_enter Tryz.func86, Tryz.ntmps86
    go_wp2
    go_ret
    exact ⟨ret_bool (fitsB_hi h).symm, (Below.refl _ _).alloc (Nat.le_refl _) _⟩

theorem fits_any (n a b ops : Int) (w : World) (hf : Forms w) :
    Calls Tryz.prog 86 #[.agg #[.int .i64 n, .int .i64 a, .int .i64 b], .int .i64 ops] w fun e w' => e = .returned (.bool (fitsB n a b ops)) ∧ Below w.heap.size w w' := by
  by_cases h : 1 ≤ n ∧ n ≤ 11
  · obtain ⟨m, rfl⟩ : ∃ m : Nat, n = m := ⟨n.toNat, by omega⟩
    have hc := forms_at hf m (by omega) (by omega)
    rw [← fit2_fitsB m a b ops (by omega) (by omega)]
    exact fits_at m a b ops _ _ (by omega) (by omega) w hc.1 hc.2
  · exact fits_out n a b ops (by omega) w
end Go.Proofs.YtfconbblnmbnpafGreatDoor
namespace Go.Proofs.YtfconbblnmbnpafGreatDoor
open Go.RowKit

set_option maxRecDepth 100000 in
set_option maxHeartbeats 1000000 in
theorem wrong_any (o : O3) (lb n cap : Nat) (ao : Option Addr) (w : World) (hf : Forms w) (hl : w.cell? ⟨lb, 0, none⟩ = some (.slice ao n cap)) :
    Calls Tryz.prog 85 #[.agg #[.int .i64 o.1, .int .i64 o.2.1, .int .i64 o.2.2], .pointer (some ⟨lb, 0, none⟩)] w fun e w' => e = .returned (.bool (!ok3 n o)) ∧ Below w.heap.size w w' := by
  have hlt := lt_of_cell hl
  have hlt' : lb ≠ w.heap.size := by omega
  go_enter Tryz.func85, Tryz.ntmps85
  go_wp2_with (go_at_call 86; refine (fits_any o.1 o.2.1 o.2.2 n _ (hf.alloc _)).mono ?_)
  rintro e w1 ⟨rfl, b1⟩
  go_wp2
  go_ret
  exact ⟨rfl, ((Below.refl _ _).alloc (Nat.le_refl _) _).trans (b1.mono (by simp))⟩

/-- The place of the first op that does not fit; -1, if none. -/
def fidx (n : Nat) (l : List O3) : Int := match l.findIdx? (fun o => !ok3 n o) with | some i => i | none => -1
theorem fidx_some {n : Nat} {l : List O3} {i : Nat} (h : l.findIdx? (fun o => !ok3 n o) = some i) : fidx n l = i := by unfold fidx; rw [h]
theorem fidx_none {n : Nat} {l : List O3} (h : l.findIdx? (fun o => !ok3 n o) = none) : fidx n l = -1 := by unfold fidx; rw [h]

set_option maxRecDepth 100000 in
set_option maxHeartbeats 2000000 in
theorem indexFunc_some (l : List O3) (b off cap lb n' cap' : Nat) (ao : Option Addr) (w : World) (hf : Forms w) (hl : w.cell? ⟨lb, 0, none⟩ = some (.slice ao n' cap')) (hlen : l.length ≤ 20) (hlt : b < w.heap.size)
    (hc : ∀ (i : Nat) o, l[i]? = some o → w.cell? ⟨b, off + i * 3, none⟩ = some (.int .i64 o.1) ∧ w.cell? ⟨b, off + i * 3 + 1, none⟩ = some (.int .i64 o.2.1) ∧ w.cell? ⟨b, off + i * 3 + 2, none⟩ = some (.int .i64 o.2.2)) :
    Calls Tryz.prog 87 #[.slice (some ⟨b, off, none⟩) l.length cap, .func (.func 85) #[] #[.pointer (some ⟨lb, 0, none⟩)]] w fun e w' =>
      e = .returned (.int .i64 (fidx n' l)) ∧ Below w.heap.size w w' := by
  have hll := lt_of_cell hl
  go_enter Tryz.func87, Tryz.ntmps87
  go_wp2
  go_loopw [8] (fun i wr => ∃ k : Nat, k ≤ l.length ∧ i = .int .i64 k ∧ (∀ (j : Nat) x, j < k → l[j]? = some x → (!ok3 n' x) = false) ∧ Below w.heap.size w wr) (fun i _ => l.length - (intOf i).toNat)
  case atStart => exact ⟨0, Nat.zero_le _, rfl, fun j x hj => by omega, Below.refl _ _⟩
  case round =>
    obtain ⟨k, hk, rfl, hall, hb⟩ := hrel
    have hf' : Forms wr := hf.all hb
    have hl' : wr.cell? ⟨lb, 0, none⟩ = some (.slice ao n' cap') := (hb.cell (p := ⟨lb, 0, none⟩) hll).trans hl
    have Hall : Hid (∀ (j : Nat) x, j < k → l[j]? = some x → (!ok3 n' x) = false) := hall
    clear hall
    by_cases hkl : k < l.length
    · obtain ⟨o, ho⟩ : ∃ o, l[k]? = some o := ⟨l[k], List.getElem?_eq_getElem hkl⟩
      have HO : Hid (l[k]? = some o) := ho
      obtain ⟨c0, c1, c2⟩ := hc k o ho
      clear ho
      have d0 : wr.cell? ⟨b, off + k * 3, none⟩ = some (.int .i64 o.1) := (hb.cell (p := ⟨b, _, none⟩) hlt).trans c0
      have d1 : wr.cell? ⟨b, off + k * 3 + 1, none⟩ = some (.int .i64 o.2.1) := (hb.cell (p := ⟨b, _, none⟩) hlt).trans c1
      have d2 : wr.cell? ⟨b, off + k * 3 + 2, none⟩ = some (.int .i64 o.2.2) := (hb.cell (p := ⟨b, _, none⟩) hlt).trans c2
      clear c0 c1 c2
      go_wp2_with (go_at_call 85; refine (wrong_any o lb n' cap' ao _ hf' hl').mono ?_)
      rintro e w1 ⟨rfl, b1⟩
      have hb1 := hb.trans (b1.mono hb.size)
      by_cases hok : ok3 n' o = true
      · have hok' : (!ok3 n' o) = false := by simp [hok]
        go_wp2
        go_roundw
        case rel =>
          refine ⟨k + 1, by omega, by go_num, fun j x hj hx => ?_, hb1⟩
          by_cases hjk : j < k
          · exact Hall.out j x hjk hx
          · obtain rfl : j = k := by omega
            rw [HO.out] at hx
            obtain rfl := Option.some.inj hx
            exact hok'
        case measure => simp [intOf]; omega
      · have hok' : (!ok3 n' o) = true := by simp [hok]
        have hfi := findIdx_hit (p := fun o => !ok3 n' o) Hall.out HO.out hok'
        have HF : Hid (l.findIdx? (fun o => !ok3 n' o) = some k) := hfi
        clear hfi
        go_wp2
        go_ret
        exact ⟨ret_int (fidx_some HF.out).symm, hb1⟩
    · have HF : Hid (l.findIdx? (fun o => !ok3 n' o) = none) := findIdx_miss (fun i x hi hx => Hall.out i x (by omega) hx)
      clear hf' hl'
      go_wp2
      go_ret
      exact ⟨ret_int (fidx_none HF.out).symm, hb⟩

set_option maxRecDepth 100000 in
set_option maxHeartbeats 1000000 in
theorem check_nil (ao : Option Addr) (cap : Nat) (w : World) :
    Calls Tryz.prog 67 #[.slice ao 0 cap] w fun e w' => e = .returned (.tuple #[.int .i64 0, errV 5]) ∧ Below w.heap.size w w' := by
  go_enter Tryz.func67, Tryz.ntmps67
  go_wp2
  go_ret2
  exact ⟨rfl, (Below.refl _ _).alloc (Nat.le_refl _) _⟩

set_option maxRecDepth 100000 in
set_option maxHeartbeats 1000000 in
theorem check_long (ao : Option Addr) (n cap : Nat) (w : World) (hn : 20 < n) :
    Calls Tryz.prog 67 #[.slice ao n cap] w fun e w' => e = .returned (.tuple #[.int .i64 0, errV 4]) ∧ Below w.heap.size w w' := by
  go_enter Tryz.func67, Tryz.ntmps67
  go_wp2
  go_ret2
  exact ⟨rfl, (Below.refl _ _).alloc (Nat.le_refl _) _⟩

set_option maxRecDepth 100000 in
set_option maxHeartbeats 1000000 in
theorem check_mid (l : List O3) (b off cap : Nat) (w : World) (hf : Forms w) (h0 : l.length ≠ 0) (h1 : ¬ 20 < l.length) (hlt : b < w.heap.size)
    (hc : ∀ (i : Nat) o, l[i]? = some o → w.cell? ⟨b, off + i * 3, none⟩ = some (.int .i64 o.1) ∧ w.cell? ⟨b, off + i * 3 + 1, none⟩ = some (.int .i64 o.2.1) ∧ w.cell? ⟨b, off + i * 3 + 2, none⟩ = some (.int .i64 o.2.2)) :
    Calls Tryz.prog 67 #[.slice (some ⟨b, off, none⟩) l.length cap] w fun e w' => e = .returned (.tuple #[.int .i64 (chk l).1, errV (chk l).2]) ∧ Below w.heap.size w w' := by
  have hb0 : Below w.heap.size w (w.alloc (.cells #[.slice (some ⟨b, off, none⟩) l.length cap] 65)) := (Below.refl _ _).alloc (Nat.le_refl _) _
  have hc' : ∀ (i : Nat) o, l[i]? = some o → (w.alloc (.cells #[.slice (some ⟨b, off, none⟩) l.length cap] 65)).cell? ⟨b, off + i * 3, none⟩ = some (.int .i64 o.1) ∧ (w.alloc (.cells #[.slice (some ⟨b, off, none⟩) l.length cap] 65)).cell? ⟨b, off + i * 3 + 1, none⟩ = some (.int .i64 o.2.1) ∧ (w.alloc (.cells #[.slice (some ⟨b, off, none⟩) l.length cap] 65)).cell? ⟨b, off + i * 3 + 2, none⟩ = some (.int .i64 o.2.2) := fun i o ho => by
    obtain ⟨a0, a1, a2⟩ := hc i o ho
    exact ⟨(hb0.cell (p := ⟨b, _, none⟩) hlt).trans a0, (hb0.cell (p := ⟨b, _, none⟩) hlt).trans a1, (hb0.cell (p := ⟨b, _, none⟩) hlt).trans a2⟩
  have hI := indexFunc_some l b off cap w.heap.size l.length cap (some ⟨b, off, none⟩) _ (hf.all hb0) (by simp) (by omega) (Nat.lt_of_lt_of_le hlt hb0.size) hc'
  clear hc hc' hb0
  have h0' : ¬ ((l.length : Int) = 0) := by omega
  cases hfi : l.findIdx? (fun o => !ok3 l.length o) with
  | some i =>
    have HC : Hid (chk l = ((i : Int), 1)) := chk_bad h0 h1 hfi
    rw [fidx_some hfi] at hI
    clear hfi
    go_enter Tryz.func67, Tryz.ntmps67
    go_wp2_with (go_at_call 87; refine hI.mono ?_)
    rintro e w1 ⟨rfl, b1⟩
    go_wp2
    go_ret2
    rw [HC.out]
    exact ⟨rfl, ((Below.refl _ _).alloc (Nat.le_refl _) _).trans (b1.mono (by simp))⟩
  | none =>
    have HC : Hid (chk l = (0, 0)) := chk_good h0 h1 hfi
    rw [fidx_none hfi] at hI
    clear hfi
    go_enter Tryz.func67, Tryz.ntmps67
    go_wp2_with (go_at_call 87; refine hI.mono ?_)
    rintro e w1 ⟨rfl, b1⟩
    go_wp2
    go_ret2
    rw [HC.out]
    exact ⟨rfl, ((Below.refl _ _).alloc (Nat.le_refl _) _).trans (b1.mono (by simp))⟩

theorem check_any (v : Value) (l : List O3) (w : World) (hf : Forms w) (h : Ops w v l) :
    Calls Tryz.prog 67 #[v] w fun e w' => e = .returned (.tuple #[.int .i64 (chk l).1, errV (chk l).2]) ∧ Below w.heap.size w w' := by
  rcases h with ⟨rfl, ao, cap, rfl⟩ | ⟨b, off, cap, rfl, hlt, hc⟩
  · rw [chk_nil]
    exact check_nil ao cap w
  · by_cases h0 : l.length = 0
    · obtain rfl := List.eq_nil_of_length_eq_zero h0
      rw [chk_nil]
      exact check_nil _ cap w
    · by_cases h1 : 20 < l.length
      · rw [chk_long h1]
        exact check_long _ _ cap w h1
      · exact check_mid l b off cap w hf h0 h1 hlt hc
end Go.Proofs.YtfconbblnmbnpafGreatDoor
namespace Go.Proofs.YtfconbblnmbnpafGreatDoor
open Go.RowKit

/-- The cells of a room as a value. -/
def cellsV (c : Nat → Int) : Value := .agg #[.int .i64 (c 0), .int .i64 (c 1), .int .i64 (c 2), .int .i64 (c 3), .int .i64 (c 4), .int .i64 (c 5)]
/-- A state as a value. -/
def stV (s : St) : Value := .agg #[.int .i64 s.p, .int .i64 (s.c 0), .int .i64 (s.c 1), .int .i64 (s.c 2), .int .i64 (s.c 3), .int .i64 (s.c 4), .int .i64 (s.c 5), .bool s.f]

def outB (n : Int) : Bool := decide (n < 0 ∨ 999 < n)
set_option maxRecDepth 100000 in
set_option maxHeartbeats 1000000 in
theorem outside_any (n : Int) (w : World) : Calls Tryz.prog 74 #[.int .i64 n] w fun e w' => e = .returned (.bool (outB n)) ∧ Below w.heap.size w w' := by
  by_cases h : n < 0
  · go_enter Tryz.func74, Tryz.ntmps74
    go_wp2
    go_ret
    exact ⟨ret_bool (by simp [outB, h]), Below.refl _ _⟩
  · have h' : decide (n < 0) = false := by simpa using h
    by_cases h2 : 1000 ≤ n
    · go_enter Tryz.func74, Tryz.ntmps74
      go_wp2
      go_ret
      exact ⟨ret_bool (by simp [outB]; omega), Below.refl _ _⟩
    · go_enter Tryz.func74, Tryz.ntmps74
      go_wp2
      go_ret
      exact ⟨ret_bool (by simp [outB]; omega), Below.refl _ _⟩

set_option maxRecDepth 100000 in
set_option maxHeartbeats 2000000 in
theorem indexOut (c : Nat → Int) (b off cap : Nat) (w : World) (hlt : b < w.heap.size) (hc : ∀ i : Nat, i < 6 → w.cell? ⟨b, off + i, none⟩ = some (.int .i64 (c i))) :
    Calls Tryz.prog 36 #[.slice (some ⟨b, off, none⟩) 6 cap, .func (.func 74) #[] #[]] w fun e w' =>
      (∃ r : Int, e = .returned (.int .i64 r) ∧ decide (0 ≤ r) = !cellsOk c) ∧ Below w.heap.size w w' := by
  go_enter Tryz.func36, Tryz.ntmps36
  go_wp2
  go_loopw [8] (fun i wr => ∃ k : Nat, k ≤ 6 ∧ i = .int .i64 k ∧ (∀ j : Nat, j < k → outB (c j) = false) ∧ Below w.heap.size w wr) (fun i _ => 6 - (intOf i).toNat)
  case atStart => exact ⟨0, Nat.zero_le _, rfl, fun j hj => by omega, Below.refl _ _⟩
  case round =>
    obtain ⟨k, hk, rfl, hall, hb⟩ := hrel
    have Hall : Hid (∀ j : Nat, j < k → outB (c j) = false) := hall
    clear hall
    by_cases hkl : k < 6
    · have d0 : wr.cell? ⟨b, off + k, none⟩ = some (.int .i64 (c k)) := (hb.cell (p := ⟨b, _, none⟩) hlt).trans (hc k hkl)
      go_wp2_with (go_at_call 74; refine (outside_any (c k) _).mono ?_)
      rintro e w1 ⟨rfl, b1⟩
      have hb1 := hb.trans (b1.mono hb.size)
      by_cases hok : outB (c k) = false
      · go_wp2
        go_roundw
        case rel =>
          refine ⟨k + 1, by omega, by go_num, fun j hj => ?_, hb1⟩
          by_cases hjk : j < k
          · exact Hall.out j hjk
          · obtain rfl : j = k := by omega
            exact hok
        case measure => simp [intOf]; omega
      · have hok' : outB (c k) = true := by simpa using hok
        have HF : Hid (cellsOk c = false) := by
          show _ = _
          apply cellsOk_no
          intro h
          have := h k hkl
          simp [outB] at hok'
          omega
        go_wp2
        go_ret
        exact ⟨⟨_, rfl, by rw [HF.out]; simp⟩, hb1⟩
    · have HF : Hid (cellsOk c = true) := by
        show _ = _
        rw [cellsOk_iff]
        intro i hi
        have := Hall.out i (by omega)
        simp [outB] at this
        omega
      clear hc
      go_wp2
      go_ret
      exact ⟨⟨_, rfl, by rw [HF.out]; simp⟩, hb⟩

set_option maxRecDepth 100000 in
set_option maxHeartbeats 2000000 in
theorem containsOut (c : Nat → Int) (b off cap : Nat) (w : World) (hlt : b < w.heap.size) (hc : ∀ i : Nat, i < 6 → w.cell? ⟨b, off + i, none⟩ = some (.int .i64 (c i))) :
    Calls Tryz.prog 20 #[.slice (some ⟨b, off, none⟩) 6 cap, .func (.func 74) #[] #[]] w fun e w' =>
      e = .returned (.bool (!cellsOk c)) ∧ Below w.heap.size w w' := by
  have h := indexOut c b off cap w hlt hc
  clear hc
  go_enter Tryz.func20, Tryz.ntmps20
  go_wp2_with (go_at_call 36; refine h.mono ?_; rintro e w1 ⟨⟨r, rfl, hr⟩, bb⟩; clear h; have HR : Hid (decide (0 ≤ r) = !cellsOk c) := hr; clear hr)
  go_ret
  exact ⟨ret_bool HR.out, bb⟩
end Go.Proofs.YtfconbblnmbnpafGreatDoor
namespace Go.Proofs.YtfconbblnmbnpafGreatDoor
open Go.RowKit

set_option maxRecDepth 100000 in
set_option maxHeartbeats 1000000 in
theorem sent_no (n a b : Int) (c : Nat → Int) (w : World) (h : n ≠ 8) :
    Calls Tryz.prog 80 #[.agg #[.int .i64 n, .int .i64 a, .int .i64 b], .agg #[.int .i64 (c 0), .int .i64 (c 1), .int .i64 (c 2), .int .i64 (c 3), .int .i64 (c 4), .int .i64 (c 5)]] w fun e w' => e = .returned (.int .i64 (-1)) ∧ Below w.heap.size w w' := by
  have h' : (n == 8) = false := by simpa using h
  go_enter Tryz.func80, Tryz.ntmps80
  go_wp2
  go_ret
  exact ⟨rfl, ((Below.refl _ _).alloc (Nat.le_refl _) _).alloc (by simp) _⟩
set_option maxRecDepth 100000 in
set_option maxHeartbeats 1000000 in
theorem sent_yes (a : Nat) (b : Int) (c : Nat → Int) (w : World) (ha : a ≤ 5) :
    Calls Tryz.prog 80 #[.agg #[.int .i64 8, .int .i64 a, .int .i64 b], .agg #[.int .i64 (c 0), .int .i64 (c 1), .int .i64 (c 2), .int .i64 (c 3), .int .i64 (c 4), .int .i64 (c 5)]] w fun e w' => e = .returned (.int .i64 (c a)) ∧ Below w.heap.size w w' := by
  have h : a = 0 ∨ a = 1 ∨ a = 2 ∨ a = 3 ∨ a = 4 ∨ a = 5 := by omega
  rcases h with rfl | rfl | rfl | rfl | rfl | rfl
  all_goals
    go_enter Tryz.func80, Tryz.ntmps80
    go_wp2
    go_ret
    exact ⟨rfl, ((Below.refl _ _).alloc (Nat.le_refl _) _).alloc (by simp) _⟩
end Go.Proofs.YtfconbblnmbnpafGreatDoor
namespace Go.Proofs.YtfconbblnmbnpafGreatDoor
open Go.RowKit

set_option maxRecDepth 100000 in
set_option maxHeartbeats 1000000 in
theorem new_any (w : World) : Calls Tryz.prog 34 #[] w fun e w' => e = .returned (stV ⟨0, fun _ => 0, false⟩) ∧ Below w.heap.size w w' := by
  go_enter Tryz.func34, Tryz.ntmps34
  go_wp2
  refine bodyPost_ret (v := stV ⟨0, fun _ => 0, false⟩) ?_ rfl ⟨rfl, ?_⟩
  · simp [results, Tryz.results34, go_sem, stV]
  · repeat' first | exact Below.refl _ _ | refine Below.drew ?_ | refine Below.alloc ?_ (by simp <;> omega) _ | refine Below.setCell ?_ (by simp <;> omega) _
end Go.Proofs.YtfconbblnmbnpafGreatDoor
namespace Go.Proofs.YtfconbblnmbnpafGreatDoor
open Go.RowKit

/-- The box of a state, in a later world. -/
theorem st_box {w w1 : World} {s : St} (b1 : Below (w.heap.size + 1) (w.alloc (.cells #[.int .i64 s.p, .int .i64 (s.c 0), .int .i64 (s.c 1), .int .i64 (s.c 2), .int .i64 (s.c 3), .int .i64 (s.c 4), .int .i64 (s.c 5), .bool s.f] 47)) w1) :
    w1.cell? ⟨w.heap.size, 0, none⟩ = some (.int .i64 s.p) ∧ (∀ i : Nat, i < 6 → w1.cell? ⟨w.heap.size, 1 + i, none⟩ = some (.int .i64 (s.c i))) ∧ w1.cell? ⟨w.heap.size, 7, none⟩ = some (.bool s.f) ∧ w.heap.size < w1.heap.size ∧ Below w.heap.size w w1 :=
  ⟨(b1.cell (p := ⟨w.heap.size, 0, none⟩) (by simp)).trans (by simp), six.2 ⟨(b1.cell (p := ⟨w.heap.size, 1, none⟩) (by simp)).trans (by simp), (b1.cell (p := ⟨w.heap.size, 2, none⟩) (by simp)).trans (by simp), (b1.cell (p := ⟨w.heap.size, 3, none⟩) (by simp)).trans (by simp), (b1.cell (p := ⟨w.heap.size, 4, none⟩) (by simp)).trans (by simp), (b1.cell (p := ⟨w.heap.size, 5, none⟩) (by simp)).trans (by simp), (b1.cell (p := ⟨w.heap.size, 6, none⟩) (by simp)).trans (by simp)⟩, (b1.cell (p := ⟨w.heap.size, 7, none⟩) (by simp)).trans (by simp),
   by have := b1.size; simp at this; omega, ((Below.refl _ w).alloc (Nat.le_refl _) _).trans (b1.mono (by omega))⟩

set_option maxRecDepth 100000 in
set_option maxHeartbeats 4000000 in
theorem rcheck_code (ao : Option Addr) (n cap : Nat) (k e : Int) (s : St) (w : World) (he : e ≠ 0)
    (hk : Calls Tryz.prog 67 #[.slice ao n cap] (w.alloc (.cells #[.int .i64 s.p, .int .i64 (s.c 0), .int .i64 (s.c 1), .int .i64 (s.c 2), .int .i64 (s.c 3), .int .i64 (s.c 4), .int .i64 (s.c 5), .bool s.f] 47)) fun ev w' => ev = .returned (.tuple #[.int .i64 k, errV e]) ∧ Below (w.heap.size + 1) (w.alloc (.cells #[.int .i64 s.p, .int .i64 (s.c 0), .int .i64 (s.c 1), .int .i64 (s.c 2), .int .i64 (s.c 3), .int .i64 (s.c 4), .int .i64 (s.c 5), .bool s.f] 47)) w') :
    Calls Tryz.prog 52 #[.slice ao n cap, stV s] w fun ev w' => ev = .returned (errV e) ∧ Below w.heap.size w w' := by
  rw [show errV e = .iface 70 (.int .i64 e) from by simp [errV, he]] at hk ⊢
  unfold stV
  go_enter Tryz.func52, Tryz.ntmps52
  go_wp2_with (go_at_call 67; refine hk.mono ?_; rintro ev w1 ⟨rfl, b1⟩; clear hk; obtain ⟨c0, c1, c2, c3, bw⟩ := st_box b1; clear b1 c0 c1 c2)
  go_ret
  exact ⟨rfl, bw⟩

set_option maxRecDepth 100000 in
set_option maxHeartbeats 4000000 in
theorem rcheck_place (ao : Option Addr) (n cap : Nat) (k : Int) (s : St) (w : World) (hs : ¬ (0 ≤ s.p ∧ s.p < n))
    (hk : Calls Tryz.prog 67 #[.slice ao n cap] (w.alloc (.cells #[.int .i64 s.p, .int .i64 (s.c 0), .int .i64 (s.c 1), .int .i64 (s.c 2), .int .i64 (s.c 3), .int .i64 (s.c 4), .int .i64 (s.c 5), .bool s.f] 47)) fun ev w' => ev = .returned (.tuple #[.int .i64 k, .nilIface]) ∧ Below (w.heap.size + 1) (w.alloc (.cells #[.int .i64 s.p, .int .i64 (s.c 0), .int .i64 (s.c 1), .int .i64 (s.c 2), .int .i64 (s.c 3), .int .i64 (s.c 4), .int .i64 (s.c 5), .bool s.f] 47)) w') :
    Calls Tryz.prog 52 #[.slice ao n cap, stV s] w fun ev w' => ev = .returned (errV 1) ∧ Below w.heap.size w w' := by
  unfold stV
  by_cases h0 : s.p < 0
  · go_enter Tryz.func52, Tryz.ntmps52
    go_wp2_with (go_at_call 67; refine hk.mono ?_; rintro ev w1 ⟨rfl, b1⟩; clear hk; obtain ⟨c0, c1, c2, c3, bw⟩ := st_box b1; clear b1 c1 c2)
    go_ret
    exact ⟨rfl, bw⟩
  · have h0' : decide (s.p < 0) = false := by simpa using h0
    have h1 : (n : Int) ≤ s.p := by omega
    go_enter Tryz.func52, Tryz.ntmps52
    go_wp2_with (go_at_call 67; refine hk.mono ?_; rintro ev w1 ⟨rfl, b1⟩; clear hk; obtain ⟨c0, c1, c2, c3, bw⟩ := st_box b1; clear b1 c1 c2)
    go_ret
    exact ⟨rfl, bw⟩
set_option maxRecDepth 100000 in
set_option maxHeartbeats 4000000 in
theorem rcheck_cells (ao : Option Addr) (n cap : Nat) (k : Int) (s : St) (w : World) (hs : 0 ≤ s.p ∧ s.p < n)
    (hk : Calls Tryz.prog 67 #[.slice ao n cap] (w.alloc (.cells #[.int .i64 s.p, .int .i64 (s.c 0), .int .i64 (s.c 1), .int .i64 (s.c 2), .int .i64 (s.c 3), .int .i64 (s.c 4), .int .i64 (s.c 5), .bool s.f] 47)) fun ev w' => ev = .returned (.tuple #[.int .i64 k, .nilIface]) ∧ Below (w.heap.size + 1) (w.alloc (.cells #[.int .i64 s.p, .int .i64 (s.c 0), .int .i64 (s.c 1), .int .i64 (s.c 2), .int .i64 (s.c 3), .int .i64 (s.c 4), .int .i64 (s.c 5), .bool s.f] 47)) w') :
    Calls Tryz.prog 52 #[.slice ao n cap, stV s] w fun ev w' => ev = .returned (errV (if cellsOk s.c = true then 0 else 1)) ∧ Below w.heap.size w w' := by
  unfold stV
  have h0 : decide (s.p < 0) = false := by simp; omega
  have h1 : decide ((n : Int) ≤ s.p) = false := by simp; omega
  obtain ⟨h2, h3⟩ := hs
  by_cases hc : cellsOk s.c = true
  · rw [if_pos hc]
    have HC : Hid (cellsOk s.c = true) := hc
    clear hc
    go_enter Tryz.func52, Tryz.ntmps52
    go_wp2_with (first | (go_at_call 67; refine hk.mono ?_; rintro ev w1 ⟨rfl, b1⟩; clear hk; obtain ⟨c0, c1, c2, c3, bw⟩ := st_box b1; clear b1 c2; have hcf := containsOut s.c w.heap.size 1 6 w1 c3 c1; rw [HC.out] at hcf; clear c1) | (go_at_call 20; refine hcf.mono ?_; rintro ev w2 ⟨rfl, b2⟩; clear hcf))
    go_ret
    exact ⟨rfl, bw.trans (b2.mono bw.size)⟩
  · have hc' : cellsOk s.c = false := by simpa using hc
    rw [if_neg hc]
    have HC : Hid (cellsOk s.c = false) := hc'
    clear hc hc'
    go_enter Tryz.func52, Tryz.ntmps52
    go_wp2_with (first | (go_at_call 67; refine hk.mono ?_; rintro ev w1 ⟨rfl, b1⟩; clear hk; obtain ⟨c0, c1, c2, c3, bw⟩ := st_box b1; clear b1 c2; have hcf := containsOut s.c w.heap.size 1 6 w1 c3 c1; rw [HC.out] at hcf; clear c1) | (go_at_call 20; refine hcf.mono ?_; rintro ev w2 ⟨rfl, b2⟩; clear hcf))
    go_ret
    exact ⟨rfl, bw.trans (b2.mono bw.size)⟩

theorem rcheck_any (l : List O3) (v : Value) (s : St) (w : World) (hf : Forms w) (hl : Ops w v l) :
    Calls Tryz.prog 52 #[v, stV s] w fun ev w' => ev = .returned (errV (rchk l s)) ∧ Below w.heap.size w w' := by
  have b0 : Below w.heap.size w (w.alloc (.cells #[.int .i64 s.p, .int .i64 (s.c 0), .int .i64 (s.c 1), .int .i64 (s.c 2), .int .i64 (s.c 3), .int .i64 (s.c 4), .int .i64 (s.c 5), .bool s.f] 47)) := (Below.refl _ _).alloc (Nat.le_refl _) _
  have hk := check_any v l (w.alloc (.cells #[.int .i64 s.p, .int .i64 (s.c 0), .int .i64 (s.c 1), .int .i64 (s.c 2), .int .i64 (s.c 3), .int .i64 (s.c 4), .int .i64 (s.c 5), .bool s.f] 47)) (hf.all b0) (hl.all b0)
  simp only [World.size_alloc] at hk
  obtain ⟨ao, cap, rfl⟩ := hl.form
  by_cases h : (chk l).2 = 0
  · obtain ⟨h0, h1, h2⟩ := chk_zero h
    rw [h] at hk
    by_cases hp : 0 ≤ s.p ∧ s.p < l.length
    · refine (rcheck_cells ao l.length cap _ s w hp hk).mono fun _ _ ⟨e, hb⟩ => ⟨?_, hb⟩
      rw [e]
      simp only [rchk, h, if_true, stOk, hp, and_self, decide_true, Bool.true_and]
    · refine (rcheck_place ao l.length cap _ s w hp hk).mono fun _ _ ⟨e, hb⟩ => ⟨?_, hb⟩
      rw [e]
      simp only [rchk, h, if_true, stOk, hp, decide_false, Bool.false_and]
      rfl
  · refine (rcheck_code ao l.length cap _ _ s w h hk).mono fun _ _ ⟨e, hb⟩ => ⟨?_, hb⟩
    rw [e]
    simp only [rchk, h, if_false]
end Go.Proofs.YtfconbblnmbnpafGreatDoor
namespace Go.Proofs.YtfconbblnmbnpafGreatDoor
open Go.ChangeShapes Go.WideShapes Go.ChangeAt Go.WideElems Go.RowKit

theorem own : ownKnob Tryz.prog.godebug = none := by kernel_rfl
theorem laidOut : laidOutB Tryz.prog = true := by kernel_rfl
theorem trodAll_below {H : Type} {enc : TypeId × Value → H} {P : Program} (hlo : laidOutB P = true) {W W' : World} (hb : Below W.heap.size W W') (ts : List TypeId) : ∀ {vs : List Value} {ds : List (DataW H)} {ps : List MemPlace},
    (ts.all fun t => P.readableRec t && decide (t < P.types.size)) = true → DataW.TrodAll enc P W 0 (fun _ => true) true ts vs ds ps → (∀ x ∈ ps, x.block < W.heap.size) →
    DataW.TrodAll enc P W' 0 (fun b => decide (b < W.heap.size)) true ts vs ds ps := by
  induction ts with
  | nil =>
    intro vs ds ps _ h _
    cases vs <;> cases ds <;> exact h
  | cons t ts ih =>
    intro vs ds ps ht h hl
    cases vs with
    | nil => exact h.elim
    | cons v vs =>
      cases ds with
      | nil => exact h.elim
      | cons d ds =>
        obtain ⟨p, q, h1, h2, rfl⟩ := h
        simp only [List.all_cons, Bool.and_eq_true, decide_eq_true_eq] at ht
        exact ⟨p, q, Below.trod hlo ht.1.1 ht.1.2 h1 hb (fun x hx => hl x (by simp [hx])), ih (by simpa using ht.2) h2 (fun x hx => hl x (by simp [hx])), rfl⟩

theorem law_post {H : Type} {enc : TypeId × Value → H} {f : Func} {s : ChangeSpec} {W W' : World} {args : Array Value} {ds gs : List (DataW H)} {before : List MemPlace}
    (hf : f.resultTypes = #[4]) (hts : (f.params.toList.all fun t => Tryz.prog.readableRec t && decide (t < Tryz.prog.types.size)) = true) (hsv : s.vars = [])
    (hW : DataW.Whole enc Tryz.prog f.params.toList s.vars false W args.toList ds gs before) (hs : s.fn H (ds ++ gs) = { results := [.lit (.bool true)], args := ds }) (hb : Below W.heap.size W W') :
    s.post enc Tryz.prog f false true false false W args (.bool true) W' := by
  have hW' := hW
  obtain ⟨p, q, hA, hV, rfl, hfz, hnd⟩ := hW
  have hlt : ∀ x ∈ p, x.block < W.heap.size := fun x hx => by simpa using hW'.lt x (by simp [hx])
  refine ⟨ds, gs, p ++ q, [], p, [], hW', ?_, ?_, ?_, hb.frame _, fun h => by cases h⟩
  · rw [hs, hf]
    exact trodAll_cons_mk (shut_bool Tryz.underlying4 _) trodAll_mk0
  · rw [hs]
    exact trodAll_below laidOut hb _ hts hA hlt
  · rw [hs, hsv]
    rfl
end Go.Proofs.YtfconbblnmbnpafGreatDoor

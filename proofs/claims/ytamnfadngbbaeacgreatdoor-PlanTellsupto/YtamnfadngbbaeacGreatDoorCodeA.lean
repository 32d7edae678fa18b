/-
  Base, Fits, Check: joined into one text.
-/
import Derived.Test.YtamnfadngbbaeacGreatDoorBaseA
namespace Go.Proofs.YtamnfadngbbaeacGreatDoor
open Go.RowKit

/-- The cells of the table of forms. -/
def formsCells : List Value := [
  .string ⟨#[]⟩, .int .i64 0, .int .i64 0,
  .string ⟨#[115, 101, 116]⟩, .int .i64 6, .int .i64 1000,
  .string ⟨#[99, 111, 112, 121]⟩, .int .i64 6, .int .i64 6,
  .string ⟨#[97, 100, 100]⟩, .int .i64 6, .int .i64 6,
  .string ⟨#[115, 117, 98]⟩, .int .i64 6, .int .i64 6,
  .string ⟨#[109, 117, 108]⟩, .int .i64 6, .int .i64 6,
  .string ⟨#[122, 101, 114, 111]⟩, .int .i64 6, .int .i64 0,
  .string ⟨#[106, 117, 109, 112]⟩, .int .i64 1, .int .i64 0,
  .string ⟨#[115, 101, 110, 100]⟩, .int .i64 6, .int .i64 12,
  .string ⟨#[116, 97, 107, 101]⟩, .int .i64 6, .int .i64 12,
  .string ⟨#[114, 101, 115, 116]⟩, .int .i64 1, .int .i64 1,
  .string ⟨#[102, 97, 105, 108]⟩, .int .i64 1, .int .i64 1]
/-- The table of forms lies in the world. -/
def Forms (w : World) : Prop := ∀ i v, formsCells[i]? = some v → w.cell? ⟨2, i, none⟩ = some v

theorem Forms.below {B : Nat} {w w' : World} (hf : Forms w) (hb : Below B w w') (hB : 2 < B) : Forms w' :=
  fun i v h => (hb.cell (p := ⟨_, i, none⟩) hB).trans (hf i v h)
theorem Forms.lt {w : World} (hf : Forms w) : 2 < w.heap.size := lt_of_cell (hf 0 _ rfl)
theorem Forms.all {w w' : World} (hf : Forms w) (hb : Below w.heap.size w w') : Forms w' := hf.below hb hf.lt
theorem Forms.alloc {w : World} (hf : Forms w) (o : Obj) : Forms (w.alloc o) := hf.all ((Below.refl _ _).alloc (Nat.le_refl _) _)
theorem Forms.drew {w : World} (hf : Forms w) : Forms w.drew := hf.all (Below.refl _ _).drew
end Go.Proofs.YtamnfadngbbaeacGreatDoor
namespace Go.Proofs.YtamnfadngbbaeacGreatDoor
open Go.RowKit

theorem ix0 (x y : Int) (w : World) : (Instr.index 136 (.agg #[.int .i64 x, .int .i64 y]) (.int .i64 0)).run Tryz.prog w = .ok (.int .i64 x) w := by kernel_rfl
theorem ix1 (x y : Int) (w : World) : (Instr.index 136 (.agg #[.int .i64 x, .int .i64 y]) (.int .i64 1)).run Tryz.prog w = .ok (.int .i64 y) w := by kernel_rfl

def bd (p ops : Int) : Int := if p = 0 then ops else p
def fit2 (p q a b ops : Int) : Bool := decide (0 ≤ a ∧ a < bd p ops ∧ 0 ≤ b ∧ b < bd q ops)
theorem bd_zero (ops : Int) : bd 0 ops = ops := rfl
theorem bd_not {p : Int} (h : p ≠ 0) (ops : Int) : bd p ops = p := by simp [bd, h]
theorem fit2_no1 {p q a b ops : Int} (h : a < 0 ∨ bd p ops ≤ a) : fit2 p q a b ops = false := by unfold fit2; simp only [decide_eq_false_iff_not]; omega
theorem fit2_no2 {p q a b ops : Int} (h : b < 0 ∨ bd q ops ≤ b) : fit2 p q a b ops = false := by unfold fit2; simp only [decide_eq_false_iff_not]; omega
theorem fit2_yes {p q a b ops : Int} (h1 : 0 ≤ a) (h2 : a < bd p ops) (h3 : 0 ≤ b) (h4 : b < bd q ops) : fit2 p q a b ops = true := by unfold fit2; simp only [decide_eq_true_eq]; omega

set_option maxRecDepth 100000 in
set_option maxHeartbeats 4000000 in
theorem fits_at (n : Nat) (a b ops p q : Int) (h1 : 1 ≤ n) (h2 : n ≤ 11) (w : World) (c1 : w.cell? ⟨2, n * 3 + 1, none⟩ = some (.int .i64 p)) (c2 : w.cell? ⟨2, n * 3 + 2, none⟩ = some (.int .i64 q)) :
    Calls Tryz.prog 70 #[.agg #[.int .i64 n, .int .i64 a, .int .i64 b], .int .i64 ops] w fun e w' => e = .returned (.bool (fit2 p q a b ops)) ∧ Below w.heap.size w w' := by
  have hlt := lt_of_cell c1
  have i0 := ix0 a b
  have i1 := ix1 a b
  go_enter Tryz.func70, Tryz.ntmps70
  go_wp2
  clear c1 c2
  go_loop [27] (fun i => i = .int .i64 0 ∨ (i = .int .i64 1 ∧ 0 ≤ a ∧ a < bd p ops) ∨ (i = .int .i64 2 ∧ 0 ≤ a ∧ a < bd p ops ∧ 0 ≤ b ∧ b < bd q ops)) (fun i => 2 - (intOf i).toNat)
  case atStart => exact Or.inl rfl
  case round =>
    rcases hrel with rfl | ⟨rfl, ha0, ha1⟩ | ⟨rfl, ha0, ha1, hb0, hb1⟩
    · by_cases hp : p = 0
      · subst hp
        by_cases hA : 0 ≤ a ∧ a < ops
        · obtain ⟨hA1, hA2⟩ := hA
          go_wp2
          go_round
          case rel => exact Or.inr (Or.inl ⟨rfl, hA1, by rw [bd_zero]; exact hA2⟩)
          case measure => simp [intOf]
        · go_wp2
          all_goals first | (go_ret; exact ⟨ret_bool (fit2_no1 (by rw [bd_zero]; omega)).symm, ((Below.refl _ _).alloc (Nat.le_refl _) _).alloc (by simp) _⟩) | (exfalso; omega)
      · have hp' : (p == 0) = false := by simpa using hp
        by_cases hA : 0 ≤ a ∧ a < p
        · obtain ⟨hA1, hA2⟩ := hA
          go_wp2
          go_round
          case rel => exact Or.inr (Or.inl ⟨rfl, hA1, by rw [bd_not hp]; exact hA2⟩)
          case measure => simp [intOf]
        · go_wp2
          all_goals first | (go_ret; exact ⟨ret_bool (fit2_no1 (by rw [bd_not hp]; omega)).symm, ((Below.refl _ _).alloc (Nat.le_refl _) _).alloc (by simp) _⟩) | (exfalso; omega)
    · have HA : Hid (0 ≤ a ∧ a < bd p ops) := ⟨ha0, ha1⟩
      clear ha0 ha1
      by_cases hq : q = 0
      · subst hq
        by_cases hB : 0 ≤ b ∧ b < ops
        · obtain ⟨hB1, hB2⟩ := hB
          go_wp2
          go_round
          case rel => exact Or.inr (Or.inr ⟨rfl, HA.out.1, HA.out.2, hB1, by rw [bd_zero]; exact hB2⟩)
          case measure => simp [intOf]
        · go_wp2
          all_goals first | (go_ret; exact ⟨ret_bool (fit2_no2 (by rw [bd_zero]; omega)).symm, ((Below.refl _ _).alloc (Nat.le_refl _) _).alloc (by simp) _⟩) | (exfalso; omega)
      · have hq' : (q == 0) = false := by simpa using hq
        by_cases hB : 0 ≤ b ∧ b < q
        · obtain ⟨hB1, hB2⟩ := hB
          go_wp2
          go_round
          case rel => exact Or.inr (Or.inr ⟨rfl, HA.out.1, HA.out.2, hB1, by rw [bd_not hq]; exact hB2⟩)
          case measure => simp [intOf]
        · go_wp2
          all_goals first | (go_ret; exact ⟨ret_bool (fit2_no2 (by rw [bd_not hq]; omega)).symm, ((Below.refl _ _).alloc (Nat.le_refl _) _).alloc (by simp) _⟩) | (exfalso; omega)
    · have HF := fit2_yes ha0 ha1 hb0 hb1
      clear ha0 ha1 hb0 hb1
      have HF' : Hid (fit2 p q a b ops = true) := HF
      clear HF
      go_wp2
      go_ret
      exact ⟨ret_bool HF'.out.symm, ((Below.refl _ _).alloc (Nat.le_refl _) _).alloc (by simp) _⟩

theorem forms_at {w : World} (hf : Forms w) (n : Nat) (h1 : 1 ≤ n) (h2 : n ≤ 11) : w.cell? ⟨2, n * 3 + 1, none⟩ = some (.int .i64 (pA n)) ∧ w.cell? ⟨2, n * 3 + 2, none⟩ = some (.int .i64 (pB n)) := by
  have h : n = 1 ∨ n = 2 ∨ n = 3 ∨ n = 4 ∨ n = 5 ∨ n = 6 ∨ n = 7 ∨ n = 8 ∨ n = 9 ∨ n = 10 ∨ n = 11 := by omega
  rcases h with rfl | rfl | rfl | rfl | rfl | rfl | rfl | rfl | rfl | rfl | rfl <;> exact ⟨hf _ _ rfl, hf _ _ rfl⟩
theorem fit2_fitsB (n : Nat) (a b ops : Int) (h1 : 1 ≤ n) (h2 : n ≤ 11) : fit2 (pA n) (pB n) a b ops = fitsB n a b ops := by
  have h : n = 1 ∨ n = 2 ∨ n = 3 ∨ n = 4 ∨ n = 5 ∨ n = 6 ∨ n = 7 ∨ n = 8 ∨ n = 9 ∨ n = 10 ∨ n = 11 := by omega
  rcases h with rfl | rfl | rfl | rfl | rfl | rfl | rfl | rfl | rfl | rfl | rfl <;> simp [fit2, fitsB, pA, pB, bA, bB, bd]

set_option maxRecDepth 100000 in
set_option maxHeartbeats 1000000 in
theorem fits_out (n a b ops : Int) (hn : n < 1 ∨ 11 < n) (w : World) :
    Calls Tryz.prog 70 #[.agg #[.int .i64 n, .int .i64 a, .int .i64 b], .int .i64 ops] w fun e w' => e = .returned (.bool (fitsB n a b ops)) ∧ Below w.heap.size w w' := by
  rcases hn with h | h
  · go_enter Tryz.func70, Tryz.ntmps70
    go_wp2
    go_ret
    exact ⟨ret_bool (fitsB_lo h).symm, (Below.refl _ _).alloc (Nat.le_refl _) _⟩
  · have h' : ¬ n < 1 := by omega
    go_enter Tryz.func70, Tryz.ntmps70
    go_wp2
    go_ret
    exact ⟨ret_bool (fitsB_hi h).symm, (Below.refl _ _).alloc (Nat.le_refl _) _⟩

theorem fits_any (n a b ops : Int) (w : World) (hf : Forms w) :
    Calls Tryz.prog 70 #[.agg #[.int .i64 n, .int .i64 a, .int .i64 b], .int .i64 ops] w fun e w' => e = .returned (.bool (fitsB n a b ops)) ∧ Below w.heap.size w w' := by
  by_cases h : 1 ≤ n ∧ n ≤ 11
  · obtain ⟨m, rfl⟩ : ∃ m : Nat, n = m := ⟨n.toNat, by omega⟩
    have hc := forms_at hf m (by omega) (by omega)
    rw [← fit2_fitsB m a b ops (by omega) (by omega)]
    exact fits_at m a b ops _ _ (by omega) (by omega) w hc.1 hc.2
  · exact fits_out n a b ops (by omega) w
end Go.Proofs.YtamnfadngbbaeacGreatDoor
namespace Go.Proofs.YtamnfadngbbaeacGreatDoor
open Go.RowKit

set_option maxRecDepth 100000 in
set_option maxHeartbeats 1000000 in
theorem wrong_any (o : O3) (lb n cap : Nat) (ao : Option Addr) (w : World) (hf : Forms w) (hl : w.cell? ⟨lb, 0, none⟩ = some (.slice ao n cap)) :
    Calls Tryz.prog 69 #[.agg #[.int .i64 o.1, .int .i64 o.2.1, .int .i64 o.2.2], .pointer (some ⟨lb, 0, none⟩)] w fun e w' => e = .returned (.bool (!ok3 n o)) ∧ Below w.heap.size w w' := by
  have hlt := lt_of_cell hl
  have hlt' : lb ≠ w.heap.size := by omega
  go_enter Tryz.func69, Tryz.ntmps69
  go_wp2_with (go_at_call 70; refine (fits_any o.1 o.2.1 o.2.2 n _ (hf.alloc _)).mono ?_)
  rintro e w1 ⟨rfl, b1⟩
  go_wp2
  go_ret
  exact ⟨rfl, ((Below.refl _ _).alloc (Nat.le_refl _) _).trans (b1.mono (by simp))⟩

/-- The place of the first op that does not fit; -1, if none. -/
def fidx (n : Nat) (l : List O3) : Int := match l.findIdx? (fun o => !ok3 n o) with | some i => i | none => -1
theorem fidx_some {n : Nat} {l : List O3} {i : Nat} (h : l.findIdx? (fun o => !ok3 n o) = some i) : fidx n l = i := by unfold fidx; rw [h]
theorem fidx_none {n : Nat} {l : List O3} (h : l.findIdx? (fun o => !ok3 n o) = none) : fidx n l = -1 := by unfold fidx; rw [h]

set_option maxRecDepth 100000 in
set_option maxHeartbeats 2000000 in
theorem indexFunc_some (l : List O3) (b off cap lb n' cap' : Nat) (ao : Option Addr) (w : World) (hf : Forms w) (hl : w.cell? ⟨lb, 0, none⟩ = some (.slice ao n' cap')) (hlen : l.length ≤ 20) (hlt : b < w.heap.size)
    (hc : ∀ (i : Nat) o, l[i]? = some o → w.cell? ⟨b, off + i * 3, none⟩ = some (.int .i64 o.1) ∧ w.cell? ⟨b, off + i * 3 + 1, none⟩ = some (.int .i64 o.2.1) ∧ w.cell? ⟨b, off + i * 3 + 2, none⟩ = some (.int .i64 o.2.2)) :
    Calls Tryz.prog 71 #[.slice (some ⟨b, off, none⟩) l.length cap, .func (.func 69) #[] #[.pointer (some ⟨lb, 0, none⟩)]] w fun e w' =>
      e = .returned (.int .i64 (fidx n' l)) ∧ Below w.heap.size w w' := by
  have hll := lt_of_cell hl
  go_enter Tryz.func71, Tryz.ntmps71
  go_wp2
  go_loopw [8] (fun i wr => ∃ k : Nat, k ≤ l.length ∧ i = .int .i64 k ∧ (∀ (j : Nat) x, j < k → l[j]? = some x → (!ok3 n' x) = false) ∧ Below w.heap.size w wr) (fun i _ => l.length - (intOf i).toNat)
  case atStart => exact ⟨0, Nat.zero_le _, rfl, fun j x hj => by omega, Below.refl _ _⟩
  case round =>
    obtain ⟨k, hk, rfl, hall, hb⟩ := hrel
    have hf' : Forms wr := hf.all hb
    have hl' : wr.cell? ⟨lb, 0, none⟩ = some (.slice ao n' cap') := (hb.cell (p := ⟨lb, 0, none⟩) hll).trans hl
    have Hall : Hid (∀ (j : Nat) x, j < k → l[j]? = some x → (!ok3 n' x) = false) := hall
    clear hall
    by_cases hkl : k < l.length
    · obtain ⟨o, ho⟩ : ∃ o, l[k]? = some o := ⟨l[k], List.getElem?_eq_getElem hkl⟩
      have HO : Hid (l[k]? = some o) := ho
      obtain ⟨c0, c1, c2⟩ := hc k o ho
      clear ho
      have d0 : wr.cell? ⟨b, off + k * 3, none⟩ = some (.int .i64 o.1) := (hb.cell (p := ⟨b, _, none⟩) hlt).trans c0
      have d1 : wr.cell? ⟨b, off + k * 3 + 1, none⟩ = some (.int .i64 o.2.1) := (hb.cell (p := ⟨b, _, none⟩) hlt).trans c1
      have d2 : wr.cell? ⟨b, off + k * 3 + 2, none⟩ = some (.int .i64 o.2.2) := (hb.cell (p := ⟨b, _, none⟩) hlt).trans c2
      clear c0 c1 c2
      go_wp2_with (go_at_call 69; refine (wrong_any o lb n' cap' ao _ hf' hl').mono ?_)
      rintro e w1 ⟨rfl, b1⟩
      have hb1 := hb.trans (b1.mono hb.size)
      by_cases hok : ok3 n' o = true
      · have hok' : (!ok3 n' o) = false := by simp [hok]
        go_wp2
        go_roundw
        case rel =>
          refine ⟨k + 1, by omega, by go_num, fun j x hj hx => ?_, hb1⟩
          by_cases hjk : j < k
          · exact Hall.out j x hjk hx
          · obtain rfl : j = k := by omega
            rw [HO.out] at hx
            obtain rfl := Option.some.inj hx
            exact hok'
        case measure => simp [intOf]; omega
      · have hok' : (!ok3 n' o) = true := by simp [hok]
        have hfi := findIdx_hit (p := fun o => !ok3 n' o) Hall.out HO.out hok'
        have HF : Hid (l.findIdx? (fun o => !ok3 n' o) = some k) := hfi
        clear hfi
        go_wp2
        go_ret
        exact ⟨ret_int (fidx_some HF.out).symm, hb1⟩
    · have HF : Hid (l.findIdx? (fun o => !ok3 n' o) = none) := findIdx_miss (fun i x hi hx => Hall.out i x (by omega) hx)
      clear hf' hl'
      go_wp2
      go_ret
      exact ⟨ret_int (fidx_none HF.out).symm, hb⟩

set_option maxRecDepth 100000 in
set_option maxHeartbeats 1000000 in
theorem check_nil (ao : Option Addr) (cap : Nat) (w : World) :
    Calls Tryz.prog 44 #[.slice ao 0 cap] w fun e w' => e = .returned (.tuple #[.int .i64 0, errV 5]) ∧ Below w.heap.size w w' := by
  go_enter Tryz.func44, Tryz.ntmps44
  go_wp2
  go_ret2
  exact ⟨rfl, (Below.refl _ _).alloc (Nat.le_refl _) _⟩

set_option maxRecDepth 100000 in
set_option maxHeartbeats 1000000 in
theorem check_long (ao : Option Addr) (n cap : Nat) (w : World) (hn : 20 < n) :
    Calls Tryz.prog 44 #[.slice ao n cap] w fun e w' => e = .returned (.tuple #[.int .i64 0, errV 4]) ∧ Below w.heap.size w w' := by
  go_enter Tryz.func44, Tryz.ntmps44
  go_wp2
  go_ret2
  exact ⟨rfl, (Below.refl _ _).alloc (Nat.le_refl _) _⟩

set_option maxRecDepth 100000 in
set_option maxHeartbeats 1000000 in
theorem check_mid (l : List O3) (b off cap : Nat) (w : World) (hf : Forms w) (h0 : l.length ≠ 0) (h1 : ¬ 20 < l.length) (hlt : b < w.heap.size)
    (hc : ∀ (i : Nat) o, l[i]? = some o → w.cell? ⟨b, off + i * 3, none⟩ = some (.int .i64 o.1) ∧ w.cell? ⟨b, off + i * 3 + 1, none⟩ = some (.int .i64 o.2.1) ∧ w.cell? ⟨b, off + i * 3 + 2, none⟩ = some (.int .i64 o.2.2)) :
    Calls Tryz.prog 44 #[.slice (some ⟨b, off, none⟩) l.length cap] w fun e w' => e = .returned (.tuple #[.int .i64 (chk l).1, errV (chk l).2]) ∧ Below w.heap.size w w' := by
  have hb0 : Below w.heap.size w (w.alloc (.cells #[.slice (some ⟨b, off, none⟩) l.length cap] 49)) := (Below.refl _ _).alloc (Nat.le_refl _) _
  have hc' : ∀ (i : Nat) o, l[i]? = some o → (w.alloc (.cells #[.slice (some ⟨b, off, none⟩) l.length cap] 49)).cell? ⟨b, off + i * 3, none⟩ = some (.int .i64 o.1) ∧ (w.alloc (.cells #[.slice (some ⟨b, off, none⟩) l.length cap] 49)).cell? ⟨b, off + i * 3 + 1, none⟩ = some (.int .i64 o.2.1) ∧ (w.alloc (.cells #[.slice (some ⟨b, off, none⟩) l.length cap] 49)).cell? ⟨b, off + i * 3 + 2, none⟩ = some (.int .i64 o.2.2) := fun i o ho => by
    obtain ⟨a0, a1, a2⟩ := hc i o ho
    exact ⟨(hb0.cell (p := ⟨b, _, none⟩) hlt).trans a0, (hb0.cell (p := ⟨b, _, none⟩) hlt).trans a1, (hb0.cell (p := ⟨b, _, none⟩) hlt).trans a2⟩
  have hI := indexFunc_some l b off cap w.heap.size l.length cap (some ⟨b, off, none⟩) _ (hf.all hb0) (by simp) (by omega) (Nat.lt_of_lt_of_le hlt hb0.size) hc'
  clear hc hc' hb0
  have h0' : ¬ ((l.length : Int) = 0) := by omega
  cases hfi : l.findIdx? (fun o => !ok3 l.length o) with
  | some i =>
    have HC : Hid (chk l = ((i : Int), 1)) := chk_bad h0 h1 hfi
    rw [fidx_some hfi] at hI
    clear hfi
    go_enter Tryz.func44, Tryz.ntmps44
    go_wp2_with (go_at_call 71; refine hI.mono ?_)
    rintro e w1 ⟨rfl, b1⟩
    go_wp2
    go_ret2
    rw [HC.out]
    exact ⟨rfl, ((Below.refl _ _).alloc (Nat.le_refl _) _).trans (b1.mono (by simp))⟩
  | none =>
    have HC : Hid (chk l = (0, 0)) := chk_good h0 h1 hfi
    rw [fidx_none hfi] at hI
    clear hfi
    go_enter Tryz.func44, Tryz.ntmps44
    go_wp2_with (go_at_call 71; refine hI.mono ?_)
    rintro e w1 ⟨rfl, b1⟩
    go_wp2
    go_ret2
    rw [HC.out]
    exact ⟨rfl, ((Below.refl _ _).alloc (Nat.le_refl _) _).trans (b1.mono (by simp))⟩

theorem check_any (v : Value) (l : List O3) (w : World) (hf : Forms w) (h : Ops w v l) :
    Calls Tryz.prog 44 #[v] w fun e w' => e = .returned (.tuple #[.int .i64 (chk l).1, errV (chk l).2]) ∧ Below w.heap.size w w' := by
  rcases h with ⟨rfl, ao, cap, rfl⟩ | ⟨b, off, cap, rfl, hlt, hc⟩
  · rw [chk_nil]
    exact check_nil ao cap w
  · by_cases h0 : l.length = 0
    · obtain rfl := List.eq_nil_of_length_eq_zero h0
      rw [chk_nil]
      exact check_nil _ cap w
    · by_cases h1 : 20 < l.length
      · rw [chk_long h1]
        exact check_long _ _ cap w h1
      · exact check_mid l b off cap w hf h0 h1 hlt hc
end Go.Proofs.YtamnfadngbbaeacGreatDoor

/-
  frameref1.Code: which op is wrong, and the fault; of any code.
-/
import Derived.Test.YtajfgmlockjmhaiGreatDoorJk1
namespace Go.Proofs.YtajfgmlockjmhaiGreatDoor
open Go.RowKit

theorem fits_not {n a b ops p q : Int} (hA : bA n = p) (hB : bB n ops = q) (h1 : 1 ≤ n) (h2 : n ≤ 11) (h : ¬ (0 ≤ a ∧ a < p ∧ 0 ≤ b ∧ b < q)) : (!ok3 ops (n, a, b)) = true := by
  simp only [ok3, fitsB_mk h1 h2 hA hB, Bool.not_eq_true', decide_eq_false_iff_not]
  exact h
theorem fits_yes {n a b ops p q : Int} (hA : bA n = p) (hB : bB n ops = q) (h1 : 1 ≤ n) (h2 : n ≤ 11) (h : 0 ≤ a ∧ a < p ∧ 0 ≤ b ∧ b < q) : (!ok3 ops (n, a, b)) = false := by
  simp only [ok3, fitsB_mk h1 h2 hA hB, Bool.not_eq_false', decide_eq_true_eq]
  exact h
theorem what_cases (n : Int) : n = 1 ∨ n = 2 ∨ n = 3 ∨ n = 4 ∨ n = 5 ∨ n = 6 ∨ n = 7 ∨ n = 8 ∨ n = 9 ∨ n = 10 ∨ n = 11 ∨ (n < 1 ∨ 11 < n) := by omega
theorem ret_two {k k' : IntKind} {a b c d : Int} (h : (a, b) = (c, d)) : Ending.returned (.tuple #[.int k c, .int k' d]) = .returned (.tuple #[.int k a, .int k' b]) := by
  cases h; rfl

set_option maxRecDepth 100000 in
set_option maxHeartbeats 8000000 in
theorem refcode_mid (l : List O3) (b off cap : Nat) (w : World) (h0 : l.length ≠ 0) (h1 : ¬ 20 < l.length) (hlt : b < w.heap.size)
    (hc : ∀ (i : Nat) o, l[i]? = some o → w.cell? ⟨b, off + i * 3, none⟩ = some (.int .i64 o.1) ∧ w.cell? ⟨b, off + i * 3 + 1, none⟩ = some (.int .i64 o.2.1) ∧ w.cell? ⟨b, off + i * 3 + 2, none⟩ = some (.int .i64 o.2.2)) :
    Calls Tryz.prog 56 #[.slice (some ⟨b, off, none⟩) l.length cap] w fun e w' => e = .returned (.tuple #[.int .i64 (chk l).1, .int .i64 (chk l).2]) ∧ Below w.heap.size w w' := by
  have hne : ((l.length : Int) == 0) = false := by simpa using h0
  have hle : decide ((20 : Int) < (l.length : Int)) = false := by simp; omega
  have H0 : Hid (l.length ≠ 0) := h0
  have H1 : Hid (¬ 20 < l.length) := h1
  go_enter Tryz.func56, Tryz.ntmps56
  go_wp2

  clear hne hle
  go_loopw [4] (fun i wr => ∃ k : Nat, k ≤ l.length ∧ i = .int .i64 k ∧ (∀ (j : Nat) x, j < k → l[j]? = some x → (!ok3 l.length x) = false) ∧ Below w.heap.size w wr) (fun i _ => l.length - (intOf i).toNat)
  case atStart => exact ⟨0, Nat.zero_le _, rfl, fun j x hj => by omega, Below.refl _ _⟩
  case round =>
    obtain ⟨k, hk, rfl, hall, hb⟩ := hrel
    have Hall : Hid (∀ (j : Nat) x, j < k → l[j]? = some x → (!ok3 l.length x) = false) := hall
    clear hall
    by_cases hkl : k < l.length
    · obtain ⟨o, ho⟩ : ∃ o, l[k]? = some o := ⟨l[k], List.getElem?_eq_getElem hkl⟩
      obtain ⟨c0, c1, c2⟩ := hc k o ho
      have d0 : wr.cell? ⟨b, off + k * 3, none⟩ = some (.int .i64 o.1) := (hb.cell (p := ⟨b, _, none⟩) hlt).trans c0
      have d1 : wr.cell? ⟨b, off + k * 3 + 1, none⟩ = some (.int .i64 o.2.1) := (hb.cell (p := ⟨b, _, none⟩) hlt).trans c1
      have d2 : wr.cell? ⟨b, off + k * 3 + 2, none⟩ = some (.int .i64 o.2.2) := (hb.cell (p := ⟨b, _, none⟩) hlt).trans c2
      clear c0 c1 c2
      obtain ⟨n, x, y⟩ := o
      simp only at d0 d1 d2
      have stop : Hid ((!ok3 l.length (n, x, y)) = true → chk l = ((k : Int), 1)) := fun h => chk_bad H0.out H1.out (findIdx_hit (p := fun o => !ok3 l.length o) Hall.out ho h)
      have go : Hid ((!ok3 l.length (n, x, y)) = false → ∀ (j : Nat) z, j < k + 1 → l[j]? = some z → (!ok3 l.length z) = false) := fun h j z hj hz => by
        by_cases hjk : j < k
        · exact Hall.out j z hjk hz
        · obtain rfl : j = k := by omega
          rw [ho] at hz
          obtain rfl := Option.some.inj hz
          exact h
      clear ho Hall
      rcases what_cases n with rfl | rfl | rfl | rfl | rfl | rfl | rfl | rfl | rfl | rfl | rfl | hn
      · by_cases hf : 0 ≤ x ∧ x < 6 ∧ 0 ≤ y ∧ y < 1000
        · have HG := go.out (fits_yes (p := 6) (q := 1000) (by decide) (by simp [bB]) (by decide) (by decide) hf)
          have HG' : Hid (∀ (j : Nat) z, j < k + 1 → l[j]? = some z → (!ok3 l.length z) = false) := HG
          clear go stop HG
          obtain ⟨f1, f2, f3, f4⟩ := hf
          go_wp2
          go_roundw
          case rel => exact ⟨k + 1, by omega, by go_num, HG'.out, hb.alloc hb.size _⟩
          case measure => simp [intOf]; omega
        · have HS : Hid (chk l = ((k : Int), 1)) := stop.out (fits_not (p := 6) (q := 1000) (by decide) (by simp [bB]) (by decide) (by decide) hf)
          clear go stop
          go_wp2
          all_goals first | (go_ret2; exact ⟨ret_two HS.out, hb.alloc hb.size _⟩) | (exfalso; omega)
      · by_cases hf : 0 ≤ x ∧ x < 6 ∧ 0 ≤ y ∧ y < 6
        · have HG := go.out (fits_yes (p := 6) (q := 6) (by decide) (by simp [bB]) (by decide) (by decide) hf)
          have HG' : Hid (∀ (j : Nat) z, j < k + 1 → l[j]? = some z → (!ok3 l.length z) = false) := HG
          clear go stop HG
          obtain ⟨f1, f2, f3, f4⟩ := hf
          go_wp2
          go_roundw
          case rel => exact ⟨k + 1, by omega, by go_num, HG'.out, hb.alloc hb.size _⟩
          case measure => simp [intOf]; omega
        · have HS : Hid (chk l = ((k : Int), 1)) := stop.out (fits_not (p := 6) (q := 6) (by decide) (by simp [bB]) (by decide) (by decide) hf)
          clear go stop
          go_wp2
          all_goals first | (go_ret2; exact ⟨ret_two HS.out, hb.alloc hb.size _⟩) | (exfalso; omega)
      · by_cases hf : 0 ≤ x ∧ x < 6 ∧ 0 ≤ y ∧ y < 6
        · have HG := go.out (fits_yes (p := 6) (q := 6) (by decide) (by simp [bB]) (by decide) (by decide) hf)
          have HG' : Hid (∀ (j : Nat) z, j < k + 1 → l[j]? = some z → (!ok3 l.length z) = false) := HG
          clear go stop HG
          obtain ⟨f1, f2, f3, f4⟩ := hf
          go_wp2
          go_roundw
          case rel => exact ⟨k + 1, by omega, by go_num, HG'.out, hb.alloc hb.size _⟩
          case measure => simp [intOf]; omega
        · have HS : Hid (chk l = ((k : Int), 1)) := stop.out (fits_not (p := 6) (q := 6) (by decide) (by simp [bB]) (by decide) (by decide) hf)
          clear go stop
          go_wp2
          all_goals first | (go_ret2; exact ⟨ret_two HS.out, hb.alloc hb.size _⟩) | (exfalso; omega)
      · by_cases hf : 0 ≤ x ∧ x < 6 ∧ 0 ≤ y ∧ y < 6
        · have HG := go.out (fits_yes (p := 6) (q := 6) (by decide) (by simp [bB]) (by decide) (by decide) hf)
          have HG' : Hid (∀ (j : Nat) z, j < k + 1 → l[j]? = some z → (!ok3 l.length z) = false) := HG
          clear go stop HG
          obtain ⟨f1, f2, f3, f4⟩ := hf
          go_wp2
          go_roundw
          case rel => exact ⟨k + 1, by omega, by go_num, HG'.out, hb.alloc hb.size _⟩
          case measure => simp [intOf]; omega
        · have HS : Hid (chk l = ((k : Int), 1)) := stop.out (fits_not (p := 6) (q := 6) (by decide) (by simp [bB]) (by decide) (by decide) hf)
          clear go stop
          go_wp2
          all_goals first | (go_ret2; exact ⟨ret_two HS.out, hb.alloc hb.size _⟩) | (exfalso; omega)
      · by_cases hf : 0 ≤ x ∧ x < 6 ∧ 0 ≤ y ∧ y < 6
        · have HG := go.out (fits_yes (p := 6) (q := 6) (by decide) (by simp [bB]) (by decide) (by decide) hf)
          have HG' : Hid (∀ (j : Nat) z, j < k + 1 → l[j]? = some z → (!ok3 l.length z) = false) := HG
          clear go stop HG
          obtain ⟨f1, f2, f3, f4⟩ := hf
          go_wp2
          go_roundw
          case rel => exact ⟨k + 1, by omega, by go_num, HG'.out, hb.alloc hb.size _⟩
          case measure => simp [intOf]; omega
        · have HS : Hid (chk l = ((k : Int), 1)) := stop.out (fits_not (p := 6) (q := 6) (by decide) (by simp [bB]) (by decide) (by decide) hf)
          clear go stop
          go_wp2
          all_goals first | (go_ret2; exact ⟨ret_two HS.out, hb.alloc hb.size _⟩) | (exfalso; omega)
      · by_cases hf : 0 ≤ x ∧ x < 6 ∧ 0 ≤ y ∧ y < (l.length : Int)
        · have HG := go.out (fits_yes (p := 6) (q := (l.length : Int)) (by decide) (by simp [bB]) (by decide) (by decide) hf)
          have HG' : Hid (∀ (j : Nat) z, j < k + 1 → l[j]? = some z → (!ok3 l.length z) = false) := HG
          clear go stop HG
          obtain ⟨f1, f2, f3, f4⟩ := hf
          go_wp2
          go_roundw
          case rel => exact ⟨k + 1, by omega, by go_num, HG'.out, hb.alloc hb.size _⟩
          case measure => simp [intOf]; omega
        · have HS : Hid (chk l = ((k : Int), 1)) := stop.out (fits_not (p := 6) (q := (l.length : Int)) (by decide) (by simp [bB]) (by decide) (by decide) hf)
          clear go stop
          go_wp2
          all_goals first | (go_ret2; exact ⟨ret_two HS.out, hb.alloc hb.size _⟩) | (exfalso; omega)
      · by_cases hf : 0 ≤ x ∧ x < 1 ∧ 0 ≤ y ∧ y < (l.length : Int)
        · have HG := go.out (fits_yes (p := 1) (q := (l.length : Int)) (by decide) (by simp [bB]) (by decide) (by decide) hf)
          have HG' : Hid (∀ (j : Nat) z, j < k + 1 → l[j]? = some z → (!ok3 l.length z) = false) := HG
          clear go stop HG
          obtain ⟨f1, f2, f3, f4⟩ := hf
          go_wp2
          go_roundw
          case rel => exact ⟨k + 1, by omega, by go_num, HG'.out, hb.alloc hb.size _⟩
          case measure => simp [intOf]; omega
        · have HS : Hid (chk l = ((k : Int), 1)) := stop.out (fits_not (p := 1) (q := (l.length : Int)) (by decide) (by simp [bB]) (by decide) (by decide) hf)
          clear go stop
          go_wp2
          all_goals first | (go_ret2; exact ⟨ret_two HS.out, hb.alloc hb.size _⟩) | (exfalso; omega)
      · by_cases hf : 0 ≤ x ∧ x < 6 ∧ 0 ≤ y ∧ y < 12
        · have HG := go.out (fits_yes (p := 6) (q := 12) (by decide) (by simp [bB]) (by decide) (by decide) hf)
          have HG' : Hid (∀ (j : Nat) z, j < k + 1 → l[j]? = some z → (!ok3 l.length z) = false) := HG
          clear go stop HG
          obtain ⟨f1, f2, f3, f4⟩ := hf
          go_wp2
          go_roundw
          case rel => exact ⟨k + 1, by omega, by go_num, HG'.out, hb.alloc hb.size _⟩
          case measure => simp [intOf]; omega
        · have HS : Hid (chk l = ((k : Int), 1)) := stop.out (fits_not (p := 6) (q := 12) (by decide) (by simp [bB]) (by decide) (by decide) hf)
          clear go stop
          go_wp2
          all_goals first | (go_ret2; exact ⟨ret_two HS.out, hb.alloc hb.size _⟩) | (exfalso; omega)
      · by_cases hf : 0 ≤ x ∧ x < 6 ∧ 0 ≤ y ∧ y < 12
        · have HG := go.out (fits_yes (p := 6) (q := 12) (by decide) (by simp [bB]) (by decide) (by decide) hf)
          have HG' : Hid (∀ (j : Nat) z, j < k + 1 → l[j]? = some z → (!ok3 l.length z) = false) := HG
          clear go stop HG
          obtain ⟨f1, f2, f3, f4⟩ := hf
          go_wp2
          go_roundw
          case rel => exact ⟨k + 1, by omega, by go_num, HG'.out, hb.alloc hb.size _⟩
          case measure => simp [intOf]; omega
        · have HS : Hid (chk l = ((k : Int), 1)) := stop.out (fits_not (p := 6) (q := 12) (by decide) (by simp [bB]) (by decide) (by decide) hf)
          clear go stop
          go_wp2
          all_goals first | (go_ret2; exact ⟨ret_two HS.out, hb.alloc hb.size _⟩) | (exfalso; omega)
      · by_cases hf : 0 ≤ x ∧ x < 1 ∧ 0 ≤ y ∧ y < 1
        · have HG := go.out (fits_yes (p := 1) (q := 1) (by decide) (by simp [bB]) (by decide) (by decide) hf)
          have HG' : Hid (∀ (j : Nat) z, j < k + 1 → l[j]? = some z → (!ok3 l.length z) = false) := HG
          clear go stop HG
          obtain ⟨f1, f2, f3, f4⟩ := hf
          go_wp2
          go_roundw
          case rel => exact ⟨k + 1, by omega, by go_num, HG'.out, hb.alloc hb.size _⟩
          case measure => simp [intOf]; omega
        · have HS : Hid (chk l = ((k : Int), 1)) := stop.out (fits_not (p := 1) (q := 1) (by decide) (by simp [bB]) (by decide) (by decide) hf)
          clear go stop
          go_wp2
          all_goals first | (go_ret2; exact ⟨ret_two HS.out, hb.alloc hb.size _⟩) | (exfalso; omega)
      · by_cases hf : 0 ≤ x ∧ x < 1 ∧ 0 ≤ y ∧ y < 1
        · have HG := go.out (fits_yes (p := 1) (q := 1) (by decide) (by simp [bB]) (by decide) (by decide) hf)
          have HG' : Hid (∀ (j : Nat) z, j < k + 1 → l[j]? = some z → (!ok3 l.length z) = false) := HG
          clear go stop HG
          obtain ⟨f1, f2, f3, f4⟩ := hf
          go_wp2
          go_roundw
          case rel => exact ⟨k + 1, by omega, by go_num, HG'.out, hb.alloc hb.size _⟩
          case measure => simp [intOf]; omega
        · have HS : Hid (chk l = ((k : Int), 1)) := stop.out (fits_not (p := 1) (q := 1) (by decide) (by simp [bB]) (by decide) (by decide) hf)
          clear go stop
          go_wp2
          all_goals first | (go_ret2; exact ⟨ret_two HS.out, hb.alloc hb.size _⟩) | (exfalso; omega)
      · have HS : Hid (chk l = ((k : Int), 1)) := stop.out (by rcases hn with hn | hn <;> simp [ok3, fitsB_lo, fitsB_hi, hn])
        clear go stop
        have n1 : (n == 1) = false := by simp; omega
        have n2 : (n == 2) = false := by simp; omega
        have n3 : (n == 3) = false := by simp; omega
        have n4 : (n == 4) = false := by simp; omega
        have n5 : (n == 5) = false := by simp; omega
        have n6 : (n == 6) = false := by simp; omega
        have n7 : (n == 7) = false := by simp; omega
        have n8 : (n == 8) = false := by simp; omega
        have n9 : (n == 9) = false := by simp; omega
        have n10 : (n == 10) = false := by simp; omega
        have n11 : (n == 11) = false := by simp; omega
        clear hn
        go_wp2
        go_ret2
        exact ⟨ret_two HS.out, hb.alloc hb.size _⟩
    · have HF : Hid (chk l = (0, 0)) := chk_good H0.out H1.out (findIdx_miss (fun i x hi hx => Hall.out i x (by omega) hx))
      go_wp2
      go_ret2
      exact ⟨ret_two HF.out, hb⟩

set_option maxRecDepth 100000 in
set_option maxHeartbeats 1000000 in
theorem refcode_nil (ao : Option Addr) (cap : Nat) (w : World) :
    Calls Tryz.prog 56 #[.slice ao 0 cap] w fun e w' => e = .returned (.tuple #[.int .i64 0, .int .i64 5]) ∧ Below w.heap.size w w' := by
  go_enter Tryz.func56, Tryz.ntmps56
  go_wp2
  go_ret2
  exact ⟨rfl, Below.refl _ _⟩
set_option maxRecDepth 100000 in
set_option maxHeartbeats 1000000 in
theorem refcode_long (ao : Option Addr) (n cap : Nat) (w : World) (hn : 20 < n) :
    Calls Tryz.prog 56 #[.slice ao n cap] w fun e w' => e = .returned (.tuple #[.int .i64 0, .int .i64 4]) ∧ Below w.heap.size w w' := by
  go_enter Tryz.func56, Tryz.ntmps56
  go_wp2
  go_ret2
  exact ⟨rfl, Below.refl _ _⟩
theorem refcode_any (v : Value) (l : List O3) (w : World) (h : Ops w v l) :
    Calls Tryz.prog 56 #[v] w fun e w' => e = .returned (.tuple #[.int .i64 (chk l).1, .int .i64 (chk l).2]) ∧ Below w.heap.size w w' := by
  rcases h with ⟨rfl, ao, cap, rfl⟩ | ⟨b, off, cap, rfl, hlt, hc⟩
  · rw [chk_nil]
    exact refcode_nil ao cap w
  · by_cases h0 : l.length = 0
    · obtain rfl := List.eq_nil_of_length_eq_zero h0
      rw [chk_nil]
      exact refcode_nil _ cap w
    · by_cases h1 : 20 < l.length
      · rw [chk_long h1]
        exact refcode_long _ _ cap w h1
      · exact refcode_mid l b off cap w h0 h1 hlt hc
end Go.Proofs.YtajfgmlockjmhaiGreatDoor

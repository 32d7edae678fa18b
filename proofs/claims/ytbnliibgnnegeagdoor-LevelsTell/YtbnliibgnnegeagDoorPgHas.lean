/-
  slices.Index and slices.Contains of numbers: is one there?
-/
import Derived.Test.YtbnliibgnnegeagDoorRdL
namespace Go.Proofs.YtbnliibgnnegeagDoor
open Go.RowKit

set_option maxRecDepth 100000 in
set_option maxHeartbeats 2000000 in
theorem index_ints (xs : List Int) (x : Int) (b off cap : Nat) (w : World) (hx : xs.length ≤ 1000) (hc : ∀ (i : Nat) y, xs[i]? = some y → w.cell? ⟨b, off + i, none⟩ = some (.int .i64 y)) :
    Calls Tryd.prog 34 #[.slice (some ⟨b, off, none⟩) xs.length cap, .int .i64 x] w fun e w' => (∃ r : Int, e = .returned (.int .i64 r) ∧ decide (0 ≤ r) = xs.contains x) ∧ w' = w := by
  have HC : Hid (∀ (i : Nat) y, xs[i]? = some y → w.cell? ⟨b, off + i, none⟩ = some (.int .i64 y)) := hc
  clear hc
  go_enter Tryd.func34, Tryd.ntmps34
  go_wp2
  go_loopw [8] (fun i wr => ∃ k : Nat, k ≤ xs.length ∧ i = .int .i64 k ∧ (∀ (j : Nat) y, j < k → xs[j]? = some y → (x == y) = false) ∧ wr = w) (fun i _ => xs.length - (intOf i).toNat)
  case atStart => exact ⟨0, Nat.zero_le _, rfl, fun j y hj => by omega, rfl⟩
  case round =>
    obtain ⟨k, hk, rfl, hall, rfl⟩ := hrel
    have Hall : Hid (∀ (j : Nat) y, j < k → xs[j]? = some y → (x == y) = false) := hall
    clear hall
    by_cases hkl : k < xs.length
    · have hki : (k : Int) < (xs.length : Int) := by omega
      obtain ⟨y, hy⟩ : ∃ y, xs[k]? = some y := ⟨xs[k], List.getElem?_eq_getElem hkl⟩
      have d0 := HC.out k y hy
      have HY : Hid (xs[k]? = some y) := hy
      clear hy
      cases hxy : (x == y) with
      | false =>
        go_wp2
        go_roundw
        case rel =>
          refine ⟨k + 1, by omega, by go_num, fun j z hj hz => ?_, by trivial⟩
          by_cases hjk : j < k
          · exact Hall.out j z hjk hz
          · obtain rfl : j = k := by omega
            rw [HY.out] at hz
            obtain rfl := Option.some.inj hz
            exact hxy
        case measure => simp [intOf]; omega
      | true =>
        have HF : Hid (xs.contains x = true) := by
          show _ = _
          rw [List.contains_iff_mem]
          obtain rfl := eq_of_beq hxy
          exact List.mem_of_getElem? HY.out
        go_wp2
        go_ret
        exact ⟨⟨_, rfl, by rw [HF.out]; simp⟩, rfl⟩
    · have hki : decide ((k : Int) < (xs.length : Int)) = false := decide_eq_false (by omega)
      have hki' : decide (k < xs.length) = false := decide_eq_false (by omega)
      have HF : Hid (xs.contains x = false) := by
        show _ = _
        rw [Bool.eq_false_iff]
        intro h
        rw [List.contains_iff_mem] at h
        obtain ⟨j, hj⟩ := List.mem_iff_getElem?.1 h
        have := Hall.out j x (by have := (List.getElem?_eq_some_iff.1 hj).1; omega) hj
        simp at this
      go_wp2
      go_ret
      exact ⟨⟨_, rfl, by rw [HF.out]; decide⟩, rfl⟩
set_option maxRecDepth 100000 in
set_option maxHeartbeats 2000000 in
theorem contains_ints (xs : List Int) (x : Int) (b off cap : Nat) (w : World) (hx : xs.length ≤ 1000) (hc : ∀ (i : Nat) y, xs[i]? = some y → w.cell? ⟨b, off + i, none⟩ = some (.int .i64 y)) :
    Calls Tryd.prog 27 #[.slice (some ⟨b, off, none⟩) xs.length cap, .int .i64 x] w fun e w' => e = .returned (.bool (xs.contains x)) ∧ w' = w := by
  have h := index_ints xs x b off cap w hx hc
  obtain ⟨r, hr⟩ : ∃ r, r = xs.contains x := ⟨_, rfl⟩
  rw [← hr] at h ⊢
  clear hr hc
  go_enter Tryd.func27, Tryd.ntmps27
  go_wp2_with (go_at_call 34; refine h.mono ?_; rintro e w1 ⟨⟨q, rfl, hq⟩, rfl⟩; clear h)
  go_ret
  exact ⟨rfl, rfl⟩
end Go.Proofs.YtbnliibgnnegeagDoor

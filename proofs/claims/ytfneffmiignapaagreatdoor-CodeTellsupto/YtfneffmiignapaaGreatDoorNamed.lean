/-
  code.named: which What has a name; of any word.
-/
import Derived.Test.YtfneffmiignapaaGreatDoorOpLine
import Derived.Lib.Strings
namespace Go.Proofs.YtfneffmiignapaaGreatDoor
open Go.RowKit

set_option maxRecDepth 100000 in
set_option maxHeartbeats 2000000 in
theorem named_any (s : ByteArray) (w : World) (hf : Forms w) :
    Calls Tryz.prog 40 #[.string s] w fun e w' => e = .returned (.int .i64 (namedB s.data.toList)) ∧ w' = w := by
  have hst : s.toList = s.data.toList := Lib.toList_data s
  go_enter Tryz.func40, Tryz.ntmps40
  go_wp2
  go_loop [3] (fun i => ∃ k : Nat, 1 ≤ k ∧ k ≤ 12 ∧ i = .int .i64 k ∧ ∀ j : Nat, 1 ≤ j → j < k → s.data.toList ≠ nameB j) (fun i => 12 - (intOf i).toNat)
  case atStart => exact ⟨1, by omega, by omega, rfl, fun j h1 h2 => by omega⟩
  case round =>
    obtain ⟨k, hk1, hk2, rfl, hall⟩ := hrel
    have HA : Hid (∀ j : Nat, 1 ≤ j → j < k → s.data.toList ≠ nameB j) := hall
    clear hall
    by_cases hk : k ≤ 11
    · have hc := forms_name hf k hk1 hk
      by_cases he : s.data.toList = nameB k
      · have ht : (nameB k == s.toList) = true := by rw [hst, he]; simp
        have HE : Hid (namedB s.data.toList = k) := by show _ = _; rw [he]; exact named_hit k hk1 hk
        clear hst he hf
        go_wp2
        go_ret
        exact ⟨ret_int HE.out.symm, rfl⟩
      · have ht : (nameB k == s.toList) = false := by rw [hst]; simp; exact fun e => he e.symm
        have HE : Hid (s.data.toList ≠ nameB k) := he
        clear hst he hf
        go_wp2
        go_round
        case rel =>
          refine ⟨k + 1, by omega, by omega, by go_num, fun j h1 h2 => ?_⟩
          by_cases hj : j < k
          · exact HA.out j h1 hj
          · obtain rfl : j = k := by omega
            exact HE.out
        case measure => simp [intOf]; omega
    · have HE : Hid (namedB s.data.toList = 0) := named_miss fun j h1 h2 => HA.out j h1 (by omega)
      clear hst hf
      go_wp2
      go_ret
      exact ⟨ret_int HE.out.symm, rfl⟩
end Go.Proofs.YtfneffmiignapaaGreatDoor

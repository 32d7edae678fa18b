/-
  frameref1.Number, Numbers: at four digits.
-/
import Derived.Test.YtfneffmiignapaaGreatDoorNumMath
import Derived.Test.YtfneffmiignapaaGreatDoorRefPut
namespace Go.Proofs.YtfneffmiignapaaGreatDoor
open Go.RowKit

set_option maxRecDepth 100000 in
set_option maxHeartbeats 2000000 in
theorem rnum_empty (w : World) : Calls Tryz.prog 49 #[.string ⟨#[]⟩, .int .i64 4] w fun e w' => e = .returned (.tuple #[.int .i64 0, .bool false]) ∧ Below w.heap.size w w' := by
  go_enter Tryz.func49, Tryz.ntmps49
  go_wp2
  go_ret2
  exact ⟨rfl, Below.refl _ _⟩
theorem str_ne {s : ByteArray} (h : 0 < s.size) : (s.toList == ([] : List UInt8)) = false := by
  rw [Lib.toList_data s]
  cases hd : s.data.toList with
  | nil =>
    have : s.data.toList.length = s.size := by simp
    rw [hd] at this
    simp at this
    omega
  | cons x xs => rfl
set_option maxRecDepth 100000 in
set_option maxHeartbeats 2000000 in
theorem rnum_long (s : ByteArray) (w : World) (h : 4 < s.size) : Calls Tryz.prog 49 #[.string s, .int .i64 4] w fun e w' => e = .returned (.tuple #[.int .i64 0, .bool false]) ∧ Below w.heap.size w w' := by
  have hne := str_ne (s := s) (by omega)
  have h' : (4 : Int) < (s.size : Int) := by omega
  go_enter Tryz.func49, Tryz.ntmps49
  go_wp2
  go_ret2
  exact ⟨rfl, Below.refl _ _⟩
set_option maxRecDepth 100000 in
set_option maxHeartbeats 2000000 in
theorem rnum_zero (s : ByteArray) (w : World) (h0 : 1 < s.size) (h4 : s.size ≤ 4) (hz : ((s[0].toNat : Int) == 48) = true) : Calls Tryz.prog 49 #[.string s, .int .i64 4] w fun e w' => e = .returned (.tuple #[.int .i64 0, .bool false]) ∧ Below w.heap.size w w' := by
  have hne := str_ne (s := s) (by omega)
  have hb : decide ((4 : Int) < (s.size : Int)) = false := by simp; omega
  have hb1 : decide ((1 : Int) < (s.size : Int)) = true := by simp; omega
  go_enter Tryz.func49, Tryz.ntmps49
  go_wp2
  go_ret2
  exact ⟨rfl, Below.refl _ _⟩

set_option maxRecDepth 1000000 in
set_option maxHeartbeats 4000000 in
theorem rnum_main (s : ByteArray) (w : World) (h0 : 0 < s.size) (h4 : s.size ≤ 4) (hz : ((s[0].toNat : Int) == 48) = false ∨ (s.size = 1 ∧ ((s[0].toNat : Int) == 48) = true)) : Calls Tryz.prog 49 #[.string s, .int .i64 4] w fun e w' => e = .returned (numV s.data.toList) ∧ Below w.heap.size w w' := by
  have hne := str_ne (s := s) (by omega)
  have hb : decide ((4 : Int) < (s.size : Int)) = false := by simp; omega
  have hsl : s.data.toList.length = s.size := by simp
  have HH : Hid (s.data.toList.head? = some 48 → s.data.toList.length = 1) := fun e => by
    rcases hz with hz | hz
    · exfalso
      have h1 : s.data.toList[0]? = some 48 := by rw [← List.head?_eq_getElem?]; exact e
      rw [List.getElem?_eq_getElem (by omega)] at h1
      have h2 : s[0] = 48 := Option.some.inj h1
      rw [h2] at hz
      simp at hz
    · omega
  rcases hz with hz | ⟨hz1, hz⟩
  · skip
    go_enter Tryz.func49, Tryz.ntmps49
    go_wp2
    clear hz
    go_loopw [6, 7] (fun n i wr => ∃ k : Nat, k ≤ s.size ∧ i = .int .i64 k ∧ n = .int .i64 (valD (s.data.toList.take k)) ∧ (∀ d ∈ s.data.toList.take k, isD d) ∧ wr = w) (fun _ i _ => s.size - (intOf i).toNat)
    case atStart => exact ⟨0, Nat.zero_le _, rfl, rfl, by simp, rfl⟩
    case round =>
      obtain ⟨k, hk, rfl, rfl, hall, rfl⟩ := hrel
      have hvl := valD_le (s.data.toList.take k) hall (by rw [List.length_take]; omega)
      have HA : Hid (∀ d ∈ s.data.toList.take k, isD d) := hall
      clear hall
      obtain ⟨V, hV⟩ : ∃ V, V = valD (s.data.toList.take k) := ⟨_, rfl⟩
      rw [← hV] at hvl ⊢
      have HV : Hid (V = valD (s.data.toList.take k)) := hV
      clear hV
      by_cases hkl : k < s.size
      · have hkl' : k < s.data.toList.length := by omega
        have hgd : s[k] = s.data.toList[k] := rfl
        have HT : Hid (s.data.toList.take (k + 1) = s.data.toList.take k ++ [s[k]'hkl]) := List.take_succ_eq_append_getElem hkl'
        have HM : Hid (s[k]'hkl ∈ s.data.toList) := List.getElem_mem hkl'
        clear hkl' hgd hsl
        by_cases hd1 : (s[k].toNat : Int) < 48
        · have HN : Hid (numB s.data.toList = none) := num_nodigit HM.out (Or.inl (by omega))
          go_wp2
          go_ret2
          exact ⟨by unfold numV; rw [HN.out]; rfl, Below.refl _ _⟩
        · by_cases hd2 : (57 : Int) < (s[k].toNat : Int)
          · have HN : Hid (numB s.data.toList = none) := num_nodigit HM.out (Or.inr (by omega))
            go_wp2
            go_ret2
            exact ⟨by unfold numV; rw [HN.out]; rfl, Below.refl _ _⟩
          · have HD : Hid (isD s[k]) := ⟨by omega, by omega⟩
            go_wp2
            go_roundw
            case rel =>
              refine ⟨k + 1, by omega, by go_num, ?_, ?_, by first | rfl | trivial⟩
              · rw [HT.out, valD_snoc, ← HV.out]
              · intro d hd
                rw [HT.out, List.mem_append] at hd
                rcases hd with hd | hd
                · exact HA.out d hd
                · rw [List.mem_singleton] at hd
                  rw [hd]
                  exact HD.out
            case measure => simp [intOf]; omega
      · have hke : k = s.size := by omega
        subst hke
        have HN : Hid (numB s.data.toList = some V) := by
          have e : s.data.toList.take s.size = s.data.toList := List.take_of_length_le (by omega)
          have h1 := HA.out
          have h2 := HV.out
          rw [e] at h1 h2
          show _ = _
          rw [h2]
          exact num_good h1 (fun e0 => by rw [e0] at hsl; simp at hsl; omega) (by omega) HH.out
        clear hsl
        go_wp2
        go_ret2
        exact ⟨by unfold numV; rw [HN.out]; rfl, Below.refl _ _⟩
  · have hb1 : decide ((1 : Int) < (s.size : Int)) = false := by simp; omega
    clear hz1
    go_enter Tryz.func49, Tryz.ntmps49
    go_wp2
    clear hz hb1
    go_loopw [6, 7] (fun n i wr => ∃ k : Nat, k ≤ s.size ∧ i = .int .i64 k ∧ n = .int .i64 (valD (s.data.toList.take k)) ∧ (∀ d ∈ s.data.toList.take k, isD d) ∧ wr = w) (fun _ i _ => s.size - (intOf i).toNat)
    case atStart => exact ⟨0, Nat.zero_le _, rfl, rfl, by simp, rfl⟩
    case round =>
      obtain ⟨k, hk, rfl, rfl, hall, rfl⟩ := hrel
      have hvl := valD_le (s.data.toList.take k) hall (by rw [List.length_take]; omega)
      have HA : Hid (∀ d ∈ s.data.toList.take k, isD d) := hall
      clear hall
      obtain ⟨V, hV⟩ : ∃ V, V = valD (s.data.toList.take k) := ⟨_, rfl⟩
      rw [← hV] at hvl ⊢
      have HV : Hid (V = valD (s.data.toList.take k)) := hV
      clear hV
      by_cases hkl : k < s.size
      · have hkl' : k < s.data.toList.length := by omega
        have hgd : s[k] = s.data.toList[k] := rfl
        have HT : Hid (s.data.toList.take (k + 1) = s.data.toList.take k ++ [s[k]'hkl]) := List.take_succ_eq_append_getElem hkl'
        have HM : Hid (s[k]'hkl ∈ s.data.toList) := List.getElem_mem hkl'
        clear hkl' hgd hsl
        by_cases hd1 : (s[k].toNat : Int) < 48
        · have HN : Hid (numB s.data.toList = none) := num_nodigit HM.out (Or.inl (by omega))
          go_wp2
          go_ret2
          exact ⟨by unfold numV; rw [HN.out]; rfl, Below.refl _ _⟩
        · by_cases hd2 : (57 : Int) < (s[k].toNat : Int)
          · have HN : Hid (numB s.data.toList = none) := num_nodigit HM.out (Or.inr (by omega))
            go_wp2
            go_ret2
            exact ⟨by unfold numV; rw [HN.out]; rfl, Below.refl _ _⟩
          · have HD : Hid (isD s[k]) := ⟨by omega, by omega⟩
            go_wp2
            go_roundw
            case rel =>
              refine ⟨k + 1, by omega, by go_num, ?_, ?_, by first | rfl | trivial⟩
              · rw [HT.out, valD_snoc, ← HV.out]
              · intro d hd
                rw [HT.out, List.mem_append] at hd
                rcases hd with hd | hd
                · exact HA.out d hd
                · rw [List.mem_singleton] at hd
                  rw [hd]
                  exact HD.out
            case measure => simp [intOf]; omega
      · have hke : k = s.size := by omega
        subst hke
        have HN : Hid (numB s.data.toList = some V) := by
          have e : s.data.toList.take s.size = s.data.toList := List.take_of_length_le (by omega)
          have h1 := HA.out
          have h2 := HV.out
          rw [e] at h1 h2
          show _ = _
          rw [h2]
          exact num_good h1 (fun e0 => by rw [e0] at hsl; simp at hsl; omega) (by omega) HH.out
        clear hsl
        go_wp2
        go_ret2
        exact ⟨by unfold numV; rw [HN.out]; rfl, Below.refl _ _⟩
theorem refnum_any (s : ByteArray) (w : World) : Calls Tryz.prog 49 #[.string s, .int .i64 4] w fun e w' => e = .returned (numV s.data.toList) ∧ Below w.heap.size w w' := by
  have hsl : s.data.toList.length = s.size := by simp
  by_cases h0 : s.size = 0
  · have hd : s.data.toList = [] := List.eq_nil_of_length_eq_zero (by omega)
    have hs : s = ⟨#[]⟩ := by apply ByteArray.ext; apply Array.toList_inj.1; exact hd
    rw [hd, hs]
    unfold numV
    rw [num_empty]
    exact rnum_empty w
  · by_cases h4 : 4 < s.size
    · unfold numV
      rw [numB_long (by omega)]
      exact rnum_long s w h4
    · by_cases hz : ((s[0]'(by omega)).toNat : Int) = 48
      · by_cases h1 : s.size = 1
        · exact rnum_main s w (by omega) (by omega) (Or.inr ⟨h1, by simpa using hz⟩)
        · have hh : s.data.toList.head? = some 48 := by
            rw [List.head?_eq_getElem?, List.getElem?_eq_getElem (by omega)]
            refine congrArg some ?_
            exact UInt8.toNat_inj.1 (by have : s.data.toList[0] = s[0]'(by omega) := rfl; rw [this]; simp; omega)
          unfold numV
          rw [num_zero hh (by omega)]
          exact rnum_zero s w (by omega) (by omega) (by simpa using hz)
      · exact rnum_main s w (by omega) (by omega) (Or.inl (by simpa using hz))
end Go.Proofs.YtfneffmiignapaaGreatDoor

/-
  strings.Cut at a blank, and strings.CutSuffix at byte 10.
-/
import Derived.Test.YtfneffmiignapaaGreatDoorSeqs
namespace Go.Proofs.YtfneffmiignapaaGreatDoor
open Go.RowKit

set_option maxRecDepth 100000 in
set_option maxHeartbeats 2000000 in
theorem cut1_no0 (s : ByteArray) (w : World) (hno : (32 : UInt8) ∉ s.data.toList) :
    Calls Tryz.prog 61 #[.string s, .string ⟨#[32]⟩] w fun e w' => e = .returned (.tuple #[.string s, .string ⟨#[]⟩, .bool false]) ∧ Below w.heap.size w w' := by
  have hix := Tryz.stringslite_Index_one s 32 w
  have hi : Lib.indexByte s.data.toList 32 = -1 := by
    rcases idx_cases 32 s.data.toList with ⟨_, h⟩ | ⟨u, v, h, _, _⟩
    · exact h
    · exact absurd (by rw [h]; simp) hno
  rw [hi] at hix
  clear hi hno
  go_enter Tryz.func61, Tryz.ntmps61
  go_wp2_with (go_at_call 66; refine hix.mono ?_; rintro e w' ⟨rfl, hw'⟩; subst hw')
  go_ret3
  exact ⟨rfl, Below.refl _ _⟩
set_option maxRecDepth 100000 in
set_option maxHeartbeats 2000000 in
theorem cut1_yes0 (s : ByteArray) (u v : List UInt8) (w : World) (hs : s.data.toList = u ++ 32 :: v) (hu : (32 : UInt8) ∉ u) (hl : s.size ≤ 1099511627776) :
    Calls Tryz.prog 61 #[.string s, .string ⟨#[32]⟩] w fun e w' => e = .returned (.tuple #[.string ⟨u.toArray⟩, .string ⟨v.toArray⟩, .bool true]) ∧ Below w.heap.size w w' := by
  have hix := Tryz.stringslite_Index_one s 32 w
  have hi : Lib.indexByte s.data.toList 32 = u.length := by
    rcases idx_cases 32 s.data.toList with ⟨h, _⟩ | ⟨u', v', h, h', h''⟩
    · exact absurd (by rw [hs]; simp) h
    · have e1 := cutGo_at 32 u [] v hu
      have e2 := cutGo_at 32 u' [] v' h'
      rw [← hs] at e1
      rw [← h] at e2
      have := e1.symm.trans e2
      simp only [List.nil_append, List.cons.injEq] at this
      rw [h'', this.1]
  rw [hi] at hix
  have hsz : s.size = u.length + 1 + v.length := by
    have : s.data.toList.length = s.size := by simp
    rw [← this, hs]; simp; omega
  have hx1 : s.extract 0 u.length = ⟨u.toArray⟩ := by rw [ext_eq, hs]; simp
  have hx2 : s.extract (u.length + 1) s.size = ⟨v.toArray⟩ := by
    have : s.data.toList.length = s.size := by simp
    rw [ext_eq, ← this, List.take_length, hs, drop_mid]
  rw [← hx1, ← hx2]
  have hub : (u.length : Int) < s.size := by omega
  have hub2 : u.length + 1 ≤ s.size := by omega
  have hub3 : (u.length : Int) + 1 ≤ s.size := by omega
  clear hi hs hsz hx1 hx2 hu
  go_enter Tryz.func61, Tryz.ntmps61
  go_wp2_with (go_at_call 66; refine hix.mono ?_; rintro e w' ⟨rfl, hw'⟩; subst hw')
  go_region
  all_goals go_wp2
  all_goals go_ret3
  all_goals exact ⟨rfl, (Below.refl _ _).drew⟩
set_option maxRecDepth 100000 in
set_option maxHeartbeats 2000000 in
theorem cut1_of (s : ByteArray) (w : World) (a b : ByteArray) (c : Bool) (h : Calls Tryz.prog 61 #[.string s, .string ⟨#[32]⟩] w fun e w' => e = .returned (.tuple #[.string a, .string b, .bool c]) ∧ Below w.heap.size w w') :
    Calls Tryz.prog 52 #[.string s, .string ⟨#[32]⟩] w fun e w' => e = .returned (.tuple #[.string a, .string b, .bool c]) ∧ Below w.heap.size w w' := by
  go_enter Tryz.func52, Tryz.ntmps52
  go_wp2_with (go_at_call 61; refine h.mono ?_; rintro e w1 ⟨rfl, b1⟩; clear h)
  go_ret3
  exact ⟨rfl, b1⟩
theorem cut1_no (s : ByteArray) (w : World) (hno : (32 : UInt8) ∉ s.data.toList) :
    Calls Tryz.prog 52 #[.string s, .string ⟨#[32]⟩] w fun e w' => e = .returned (.tuple #[.string s, .string ⟨#[]⟩, .bool false]) ∧ Below w.heap.size w w' := cut1_of _ _ _ _ _ (cut1_no0 s w hno)
theorem cut1_yes (s : ByteArray) (u v : List UInt8) (w : World) (hs : s.data.toList = u ++ 32 :: v) (hu : (32 : UInt8) ∉ u) (hl : s.size ≤ 1099511627776) :
    Calls Tryz.prog 52 #[.string s, .string ⟨#[32]⟩] w fun e w' => e = .returned (.tuple #[.string ⟨u.toArray⟩, .string ⟨v.toArray⟩, .bool true]) ∧ Below w.heap.size w w' := cut1_of _ _ _ _ _ (cut1_yes0 s u v w hs hu hl)

theorem suffix_yes (s : ByteArray) (u : List UInt8) (w : World) (hs : s.data.toList = u ++ [10]) (hl : s.size ≤ 1099511627776) :
    Calls Tryz.prog 51 #[.string s, .string ⟨#[10]⟩] w fun e w' => e = .returned (.tuple #[.string ⟨u.toArray⟩, .bool true]) ∧ w' = w := by
  have h := Tryz.strings_CutSuffix s ⟨#[10]⟩ w (by omega)
  have e1 : Lib.hasSuffix s.data.toList [10] = true := by rw [hs]; simp [Lib.hasSuffix]
  have e2 : Lib.trimSuffix s.data.toList [10] = u := by rw [hs]; simp [Lib.trimSuffix, Lib.hasSuffix]
  simp only at h
  rw [show ([10] : List UInt8) = (#[10] : Array UInt8).toList from rfl] at e1 e2
  rw [e1, e2] at h
  exact h
theorem suffix_no (s : ByteArray) (w : World) (hs : ∀ u, s.data.toList ≠ u ++ [10]) (hl : s.size ≤ 1099511627776) :
    Calls Tryz.prog 51 #[.string s, .string ⟨#[10]⟩] w fun e w' => (∃ t, e = .returned (.tuple #[.string t, .bool false])) ∧ w' = w := by
  refine (Tryz.strings_CutSuffix s ⟨#[10]⟩ w (by omega)).mono ?_
  rintro e w' ⟨rfl, rfl⟩
  have e1 : Lib.hasSuffix s.data.toList [10] = false := by
    rw [Bool.eq_false_iff]
    intro h
    have : [10] <:+ s.data.toList := by simpa [Lib.hasSuffix] using h
    obtain ⟨u, hu⟩ := this
    exact hs u hu.symm
  rw [show ([10] : List UInt8) = (#[10] : Array UInt8).toList from rfl] at e1
  exact ⟨⟨_, by rw [e1]⟩, rfl⟩
end Go.Proofs.YtfneffmiignapaaGreatDoor

/-
  frameref1.Cut: a text cut at each byte c; of any text.
-/
import Derived.Test.YtamnfadngbbaeacGreatDoorMathA
import Derived.Test.YtamnfadngbbaeacGreatDoorBaseA
import Derived.Lib.Strings
namespace Go.Proofs.YtamnfadngbbaeacGreatDoor
open Go.RowKit

theorem infoStr : (Tryz.prog.info? 9).map (fun i => (i.zero, i.size, i.bytes)) = some (some (.string ⟨#[]⟩), 1, 16) := by kernel_rfl
def strs (ls : List (List UInt8)) : List Value := ls.map fun l => .string ⟨l.toArray⟩
theorem ext_eq (s : ByteArray) (f k : Nat) : s.extract f k = ⟨((s.data.toList.take k).drop f).toArray⟩ := by
  apply ByteArray.ext
  apply Array.toList_inj.1
  simp [List.drop_take]

set_option maxRecDepth 1000000 in
set_option maxHeartbeats 4000000 in
theorem cut_any (s : ByteArray) (c : UInt8) (ci : Int) (hci : ci = (c.toNat : Int)) (w : World) (hs : s.size ≤ 1099511627776) :
    Calls Tryz.prog 28 #[.string s, .int .u8 ci] w fun e w' => ∃ v, e = .returned v ∧ w'.ownsRow w.heap.size 9 1 v (cutB c s.data.toList).length (strs (cutB c s.data.toList)) ∧ Below w.heap.size w w' := by
  obtain ⟨ii, hi, hz0, hz1, hz2⟩ := info_parts infoStr
  have hsl : s.data.toList.length = s.size := by simp
  have HC : Hid (ci = (c.toNat : Int)) := hci
  clear hci
  go_enter Tryz.func28, Tryz.ntmps28
  go_wp2
  go_loopw [5, 6, 7] (fun v f i wr => ∃ (k fr : Nat) (pre : List (List UInt8)), k ≤ s.size ∧ fr ≤ k ∧ pre.length ≤ k ∧ i = .int .i64 k ∧ f = .int .i64 fr ∧ wr.ownsRow w.heap.size 9 1 v pre.length (strs pre) ∧ Below w.heap.size w wr ∧
      pre ++ cutGo c ((s.data.toList.take k).drop fr) (s.data.toList.drop k) = cutB c s.data.toList) (fun _ _ i _ => s.size - (intOf i).toNat)
  case atStart => exact ⟨0, 0, [], by omega, by omega, by simp, rfl, rfl, World.ownsRow_nil _ _ _ _, Below.refl _ _, by simp [cutB]⟩
  case round =>
    obtain ⟨k, fr, pre, hk, hfr, hpl, rfl, rfl, hown, hb, hinv⟩ := hrel
    have HI : Hid (pre ++ cutGo c ((s.data.toList.take k).drop fr) (s.data.toList.drop k) = cutB c s.data.toList) := hinv
    clear hinv
    have hsz := hb.size
    by_cases hkl : k < s.size
    · have hkl' : k < s.data.toList.length := by omega
      have hgd : s[k] = s.data.toList[k] := rfl
      by_cases hx : s.data.toList[k] = c
      · have ht : ((s[k].toNat : Int) == ci) = true := by rw [HC.out, hgd, hx]; simp
        have HX : Hid (s.data.toList[k] = c) := hx
        clear hx hgd
        go_wp2_with (at_builtin; refine wpList_append_own _ rfl _ _ 68 rfl w.heap.size 9 ii (.string ⟨#[]⟩) 1 16 Tryz.underlying68 hi hz0 hz1 hz2 rfl (by decide) _ _ _ rfl (hown.alloc _) ⟨wr.heap.size, 0, none⟩ 1 1 [.string (s.extract fr k)] rfl rfl ?c1A ?c2A ?c3A ?c4A ?c5A ?_)
        case c1A =>
          intro j u hj
          match j, hj with
          | 0, hj => simp at hj; subst hj; simp [Addr.add]
        case c2A => intro u hu; simp at hu; subst hu; rfl
        case c3A => unfold maxLen; omega
        case c4A => omega
        case c5A => simp; omega
        intro v' w1 hown' hgrow _
        have hb1 : Below w.heap.size w w1 := (hb.alloc hsz _).grown hgrow (by simp; omega) (fun j hj => (hown.lt j hj).1)
        have R : w1.ownsRow w.heap.size 9 1 v' (pre ++ [(s.data.toList.take k).drop fr]).length (strs (pre ++ [(s.data.toList.take k).drop fr])) := by
          simpa [strs, ext_eq] using hown'
        clear hown' hgrow hown
        go_wp2
        go_roundw
        case rel =>
          refine ⟨k + 1, k + 1, pre ++ [(s.data.toList.take k).drop fr], by omega, by omega, by simp; omega, by go_num, by go_num, R, hb1, ?_⟩
          rw [← HI.out, drop_step hkl', cutGo_hit HX.out]
          simp
        case measure => simp [intOf]; omega
      · have ht : ((s[k].toNat : Int) == ci) = false := by
          rw [HC.out, hgd]
          simp only [beq_eq_false_iff_ne, ne_eq]
          intro e
          exact hx (UInt8.toNat_inj.1 (by omega))
        have HX : Hid (s.data.toList[k] ≠ c) := hx
        clear hx hgd
        go_wp2
        go_roundw
        case rel =>
          refine ⟨k + 1, fr, pre, by omega, by omega, by omega, by go_num, rfl, hown, hb, ?_⟩
          rw [← HI.out, drop_step hkl', cutGo_miss HX.out, piece_step hkl' hfr]
        case measure => simp [intOf]; omega
    · have hke : k = s.size := by omega
      subst hke
      go_wp2_with (at_builtin; refine wpList_append_own _ rfl _ _ 68 rfl w.heap.size 9 ii (.string ⟨#[]⟩) 1 16 Tryz.underlying68 hi hz0 hz1 hz2 rfl (by decide) _ _ _ rfl (hown.alloc _) ⟨wr.heap.size, 0, none⟩ 1 1 [.string (s.extract fr s.size)] rfl rfl ?c1B ?c2B ?c3B ?c4B ?c5B ?_)
      case c1B =>
        intro j u hj
        match j, hj with
        | 0, hj => simp at hj; subst hj; simp [Addr.add]
      case c2B => intro u hu; simp at hu; subst hu; rfl
      case c3B => unfold maxLen; omega
      case c4B => omega
      case c5B => simp; omega
      intro v' w1 hown' hgrow _
      have hb1 : Below w.heap.size w w1 := (hb.alloc hsz _).grown hgrow (by simp; omega) (fun j hj => (hown.lt j hj).1)
      have hcut : cutB c s.data.toList = pre ++ [(s.data.toList.take s.size).drop fr] := by
        rw [← HI.out, show s.data.toList.drop s.size = [] from List.drop_of_length_le (by omega)]; rfl
      have R : w1.ownsRow w.heap.size 9 1 v' (cutB c s.data.toList).length (strs (cutB c s.data.toList)) := by
        rw [hcut]
        simpa [strs, ext_eq] using hown'
      clear hown' hgrow hown hcut
      obtain ⟨g, n', cap, rfl⟩ : ∃ g n' cap, v' = .slice g n' cap := by
        rcases R.2 with ⟨h, _⟩ | ⟨g, cap, cur, h, _⟩
        · exact ⟨_, _, _, h⟩
        · exact ⟨_, _, _, h⟩
      go_wp2
      go_ret
      exact ⟨_, rfl, R, hb1⟩
end Go.Proofs.YtamnfadngbbaeacGreatDoor

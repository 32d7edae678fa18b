/-
  (*wire.Line).Peek, Take, Held; slices.Delete of the first, slices.Clone.
-/
import Derived.Test.YtfconbblnmbnpabWLine
import Derived.Deep.RegionLaw
import Derived.Deep.RegionWith
import Derived.Lib.SliceRun
namespace Go.Proofs.Ytfconbblnmbnpab
open Go.RowKit

theorem Ln.form {w : World} {base b : Nat} {kd dp ls : Int} {xs : List Int} {v : Value} (h : Ln w base b kd dp xs ls v) : (v = .slice none 0 0 ∧ xs = []) ∨ ∃ g cap, v = .slice (some ⟨g, 0, none⟩) xs.length cap := by
  rcases row_form h.row with ⟨rfl, h0⟩ | ⟨g, cap, rfl⟩
  · exact Or.inl ⟨rfl, List.eq_nil_of_length_eq_zero h0⟩
  · exact Or.inr ⟨_, _, rfl⟩

set_option maxRecDepth 100000 in
set_option maxHeartbeats 2000000 in
theorem peek_none (b : Nat) (kd dp ls : Int) (ao : Option Addr) (cap : Nat) (w : World) (hL : LnC w b kd dp ls (.slice ao 0 cap)) :
    Calls Try.prog 20 #[.pointer (some ⟨b, 0, none⟩)] w fun e w' => e = .returned (.tuple #[.int .i64 0, .bool false]) ∧ w' = w := by
  have hlt := hL.lt
  obtain ⟨c0, c1, c2, c3, f2, f3⟩ := hL
  go_enter Try.func20, Try.ntmps20
  go_wp2
  go_ret2
  exact ⟨rfl, rfl⟩
set_option maxRecDepth 100000 in
set_option maxHeartbeats 2000000 in
theorem peek_some (b : Nat) (kd dp ls : Int) (g m cap : Nat) (x : Int) (w : World) (hL : LnC w b kd dp ls (.slice (some ⟨g, 0, none⟩) m cap)) (hm : 0 < m) (hx : w.cell? ⟨g, 0, none⟩ = some (.int .i64 x)) :
    Calls Try.prog 20 #[.pointer (some ⟨b, 0, none⟩)] w fun e w' => e = .returned (.tuple #[.int .i64 x, .bool true]) ∧ w' = w := by
  have hlt := hL.lt
  have hlt2 := wlt hx
  have hm' : ¬ m = 0 := by omega
  obtain ⟨c0, c1, c2, c3, f2, f3⟩ := hL
  go_enter Try.func20, Try.ntmps20
  go_wp2
  go_ret2
  exact ⟨rfl, rfl⟩
end Go.Proofs.Ytfconbblnmbnpab

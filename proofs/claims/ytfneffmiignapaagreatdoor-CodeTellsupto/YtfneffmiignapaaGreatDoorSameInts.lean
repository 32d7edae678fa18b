/-
  framesame.Ints: of two lists that are the same.
-/
import Derived.Test.YtfneffmiignapaaGreatDoorRefOp
import Derived.Deep.QuietTactic
import Derived.BigQuiet
import Derived.WalkSmall
namespace Go.Proofs.YtfneffmiignapaaGreatDoor
open Go.RowKit

set_option maxRecDepth 1000000 in
set_option maxHeartbeats 4000000 in
theorem sameints_some (zs : List Int) (a b : Addr) (ac bc : Nat) (w : World) (ha : a.block < w.heap.size) (hb : b.block < w.heap.size) (hl : zs.length ≤ 1000000)
    (hca : ∀ (i : Nat) z, zs[i]? = some z → w.cell? (a.add i) = some (.int .i64 z)) (hcb : ∀ (i : Nat) z, zs[i]? = some z → w.cell? (b.add i) = some (.int .i64 z)) :
    Calls Tryz.prog 11 #[.slice (some a) zs.length ac, .slice (some b) zs.length bc] w fun e w' => e = .returned (.bool true) ∧ Below w.heap.size w w' := by
  go_enter Tryz.func11, Tryz.ntmps11
  go_wp2
  go_loopw [5] (fun i wr => ∃ k : Nat, k ≤ zs.length ∧ i = .int .i64 k ∧ Below w.heap.size w wr) (fun i _ => zs.length - (intOf i).toNat)
  case atStart => exact ⟨0, Nat.zero_le _, rfl, Below.refl _ _⟩
  case round =>
    obtain ⟨k, hk, rfl, hbw⟩ := hrel
    by_cases hkl : k < zs.length
    · obtain ⟨z, hz⟩ : ∃ z, zs[k]? = some z := ⟨zs[k], List.getElem?_eq_getElem hkl⟩
      have c0 := (hbw.cell (p := a.add k) (by rw [add_block]; exact ha)).trans (hca k z hz)
      have c1 := (hbw.cell (p := b.add k) (by rw [add_block]; exact hb)).trans (hcb k z hz)
      clear hz
      have hki : (k : Int) < (zs.length : Int) := by omega
      go_wp2
      go_quiet (fail)
      go_wp2
      go_roundw
      case rel => exact ⟨k + 1, by omega, by go_num, below_drewN hbw _⟩
      case measure => simp [intOf]; omega
    · go_wp2
      go_ret
      exact ⟨rfl, hbw⟩
set_option maxRecDepth 1000000 in
set_option maxHeartbeats 4000000 in
theorem sameints_nil (a b : Option Addr) (ac bc : Nat) (w : World) :
    Calls Tryz.prog 11 #[.slice a 0 ac, .slice b 0 bc] w fun e w' => e = .returned (.bool true) ∧ Below w.heap.size w w' := by
  go_enter Tryz.func11, Tryz.ntmps11
  go_wp2
  refine wp_loop_rounds 1 ?_
  rw [rounds_succ]
  go_wp2
  go_ret
  exact ⟨rfl, Below.refl _ _⟩
theorem sameints_any (va vb : Value) (zs : List Int) (w : World) (ha : Ints w va zs) (hb : Ints w vb zs) (hl : zs.length ≤ 1000000) :
    Calls Tryz.prog 11 #[va, vb] w fun e w' => e = .returned (.bool true) ∧ Below w.heap.size w w' := by
  rcases ha with ⟨rfl, rfl⟩ | ⟨a, ac, rfl, ha, hca⟩
  · rcases hb with ⟨rfl, _⟩ | ⟨b, bc, rfl, hb, hcb⟩
    · exact sameints_nil _ _ _ _ w
    · exact sameints_nil _ _ _ _ w
  · rcases hb with ⟨rfl, rfl⟩ | ⟨b, bc, rfl, hb, hcb⟩
    · exact sameints_nil _ _ _ _ w
    · exact sameints_some zs a b ac bc w ha hb hl hca hcb
end Go.Proofs.YtfneffmiignapaaGreatDoor

/-
  framesame.Ints: of two that are the same.
-/
import Derived.Test.YtbnliibgnnegeagDoorRdL
namespace Go.Proofs.YtbnliibgnnegeagDoor
open Go.RowKit
set_option maxRecDepth 1000000 in
set_option maxHeartbeats 4000000 in
theorem wints_some (zs : List Int) (a ao b bo : Nat) (ac bc : Nat) (w : World) (ha : a < w.heap.size) (hb : b < w.heap.size) (hl : zs.length ≤ 1000000)
    (hca : ∀ (i : Nat) z, zs[i]? = some z → w.cell? ⟨a, ao + i, none⟩ = some (.int .i64 z)) (hcb : ∀ (i : Nat) z, zs[i]? = some z → w.cell? ⟨b, bo + i, none⟩ = some (.int .i64 z)) :
    Calls Tryd.prog 12 #[.slice (some ⟨a, ao, none⟩) zs.length ac, .slice (some ⟨b, bo, none⟩) zs.length bc] w fun e w' => e = .returned (.bool true) ∧ Below w.heap.size w w' := by
  go_enter Tryd.func12, Tryd.ntmps12
  go_wp2
  go_loopw [5] (fun i wr => ∃ k : Nat, k ≤ zs.length ∧ i = .int .i64 k ∧ Below w.heap.size w wr) (fun i _ => zs.length - (intOf i).toNat)
  case atStart => exact ⟨0, Nat.zero_le _, rfl, Below.refl _ _⟩
  case round =>
    obtain ⟨k, hk, rfl, hbw⟩ := hrel
    by_cases hkl : k < zs.length
    · obtain ⟨z, hz⟩ : ∃ z, zs[k]? = some z := ⟨zs[k], List.getElem?_eq_getElem hkl⟩
      have c0 := (hbw.cell (p := ⟨a, ao + k, none⟩) ha).trans (hca k z hz)
      have c1 := (hbw.cell (p := ⟨b, bo + k, none⟩) hb).trans (hcb k z hz)
      clear hz
      have hki : (k : Int) < (zs.length : Int) := by omega
      go_wp2
      go_quiet (fail)
      go_wp2
      go_roundw
      case rel => exact ⟨k + 1, by omega, by go_num, below_dN hbw _⟩
      case measure => simp [intOf]; omega
    · go_wp2
      go_ret
      exact ⟨rfl, hbw⟩
set_option maxRecDepth 1000000 in
set_option maxHeartbeats 4000000 in
theorem wints_nil (a b : Option Addr) (ac bc : Nat) (w : World) :
    Calls Tryd.prog 12 #[.slice a 0 ac, .slice b 0 bc] w fun e w' => e = .returned (.bool true) ∧ Below w.heap.size w w' := by
  go_enter Tryd.func12, Tryd.ntmps12
  go_wp2
  refine wp_loop_rounds 1 ?_
  rw [rounds_succ]
  go_wp2
  go_ret
  exact ⟨rfl, Below.refl _ _⟩
theorem wints_any (va vb : Value) (zs : List Int) (w : World) (ha : Rd w va zs) (hb : Rd w vb zs) (hl : zs.length ≤ 1000000) :
    Calls Tryd.prog 12 #[va, vb] w fun e w' => e = .returned (.bool true) ∧ Below w.heap.size w w' := by
  rcases ha with ⟨rfl, ao, ac, rfl⟩ | ⟨a, ao, ac, rfl, _, _, ha, hca⟩
  · rcases hb with ⟨_, bo, bc, rfl⟩ | ⟨b, bo, bc, rfl, _, _, hb, hcb⟩
    · exact wints_nil _ _ _ _ w
    · exact wints_nil _ _ _ _ w
  · rcases hb with ⟨rfl, bo, bc, rfl⟩ | ⟨b, bo, bc, rfl, _, _, hb, hcb⟩
    · exact wints_nil _ _ _ _ w
    · exact wints_some zs a ao b bo ac bc w ha hb hl hca hcb
end Go.Proofs.YtbnliibgnnegeagDoor

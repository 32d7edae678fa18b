/-
  framesame.Ints of numbers that came in, and of an owned row.
-/
import Derived.Test.YtbnliibgnnegeagDoorWStp
import Derived.Test.YtbnliibgnnegeagDoorIntsL
namespace Go.Proofs.YtbnliibgnnegeagDoor
open Go.RowKit

theorem stp_ints {va vb : Value} {zs : List Int} {w : World} (ha : Stp w va zs) (hb : Stp w vb zs) (hl : zs.length ≤ 1000000) : Calls Tryd.prog 12 #[va, vb] w fun e w' => e = .returned (.bool true) ∧ Below w.heap.size w w' := by
  rcases ha with ⟨rfl, ao, ac, rfl⟩ | ⟨a, ao, ac, rfl, ha, hca⟩
  · rcases hb with ⟨_, bo, bc, rfl⟩ | ⟨b, bo, bc, rfl, hb, hcb⟩
    · exact wints_nil _ _ _ _ w
    · exact wints_nil _ _ _ _ w
  · rcases hb with ⟨rfl, bo, bc, rfl⟩ | ⟨b, bo, bc, rfl, hb, hcb⟩
    · exact wints_nil _ _ _ _ w
    · exact wints_some zs a ao b bo ac bc w ha hb hl hca hcb
theorem stp_own {w : World} {base : Nat} {v : Value} {xs : List Int} (h : w.ownsRow base 3 1 v xs.length (ints xs)) : Stp w v xs := by
  rcases row_form h with ⟨rfl, h0⟩ | ⟨g, cap, rfl⟩
  · exact Or.inl ⟨List.eq_nil_of_length_eq_zero h0, _, _, rfl⟩
  · obtain ⟨_, h2, _, _, h5, _, _⟩ := own_cap h
    exact Or.inr ⟨g, 0, cap, rfl, h2, fun i x hx => by rw [Nat.zero_add]; exact h5 i _ (ints_at hx)⟩
end Go.Proofs.YtbnliibgnnegeagDoor

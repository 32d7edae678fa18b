/-
  Whose wires a room's code is on: what walks over it ask alike.
-/
import Derived.Test.YtamnfadngbbaeadDoorPlanBase
import Derived.Test.YtamnfadngbbaeadDoorWStp
namespace Go.Proofs.YtamnfadngbbaeadDoor
open Go.RowKit

/-- The ports of a room, one kind of them, as they are gone over. -/
theorem ports_bad {at' : W4 → Int} {ws : List W4} {i : Nat} {zs : List Int} {k : Nat} {z : Int} (hz : zs[k]? = some z) (h : portB at' ws i z = true) : zs.any (portB at' ws i) = true := any_hit hz h
theorem wires_mem {what : Int} {c : List O3} {z : Int} (h : z ∈ wiresB what c) : 0 ≤ z ∧ z < 12 := by
  unfold wiresB pickN at h
  simp only [List.mem_map, List.mem_filter, List.mem_range'_1] at h
  obtain ⟨a, ⟨⟨_, h2⟩, _⟩, rfl⟩ := h
  simp
  omega
theorem port_out {ws : List W4} {i : Nat} {c : List O3} (h : (wiresB 8 c).any (portB (·.1) ws i) = true) : portsB ws i c = true := by unfold portsB; rw [h]; rfl
theorem port_in {ws : List W4} {i : Nat} {c : List O3} (h : (wiresB 9 c).any (portB (·.2.1) ws i) = true) : portsB ws i c = true := by unfold portsB; rw [h, Bool.or_true]
theorem ports_next {ws : List W4} {l : List (List O3)} {k : Nat} {c : List O3} (h : ∀ (j : Nat) y, j < k → l[j]? = some y → portsB ws j y = false) (hx : l[k]? = some c) (hf : portsB ws k c = false) : ∀ (j : Nat) y, j < k + 1 → l[j]? = some y → portsB ws j y = false := fun j y hj hy => by
  by_cases hjk : j < k
  · exact h j y hjk hy
  · obtain rfl : j = k := by omega
    rw [hx] at hy
    obtain rfl := Option.some.inj hy
    exact hf
theorem stp_of_ints {w : World} {v : Value} {zs : List Int} (h : Ints w v zs) : Stp w v zs := by
  rcases h with ⟨rfl, rfl⟩ | ⟨a, cap, rfl, ha, hc⟩
  · exact Or.inl ⟨rfl, _, _, rfl⟩
  · cases zs with
    | nil => exact Or.inl ⟨rfl, _, _, rfl⟩
    | cons z zs =>
      have h0 := hc 0 z rfl
      have ea : a = ⟨a.block, a.off, none⟩ := by
        obtain ⟨b, o, s⟩ := a
        cases s with
        | none => rfl
        | some s =>
          exfalso
          unfold Addr.add at h0
          simp [World.cell?] at h0
          split at h0 <;> simp at h0
      refine Or.inr ⟨a.block, a.off, cap, by rw [← ea], ha, fun i x hx => ?_⟩
      have := hc i x hx
      rw [ea, Addr.add_lit] at this
      exact this
end Go.Proofs.YtamnfadngbbaeadDoor

/-
  Rows of numbers that came in.
-/
import Derived.Test.YtbnliibgnnegeagDoorWStp
namespace Go.Proofs.YtbnliibgnnegeagDoor
open Go.RowKit

/-- Rows of numbers that came in. -/
def Sts (w : World) (v : Value) (ll : List (List Int)) : Prop := (ll = [] ∧ ∃ ao cap, v = .slice ao 0 cap) ∨ ∃ b off cap, v = .slice (some ⟨b, off, none⟩) ll.length cap ∧ b < w.heap.size ∧ ∀ (i : Nat) l, ll[i]? = some l → ∃ u, w.cell? ⟨b, off + i, none⟩ = some u ∧ Stp w u l
theorem Sts.form {w : World} {v : Value} {ll : List (List Int)} (h : Sts w v ll) : ∃ ao cap, v = .slice ao ll.length cap := by
  rcases h with ⟨rfl, ao, cap, rfl⟩ | ⟨b, off, cap, rfl, _⟩
  · exact ⟨ao, cap, rfl⟩
  · exact ⟨_, cap, rfl⟩
theorem Sts.at {w : World} {ao : Option Addr} {cap : Nat} {ll : List (List Int)} (h : Sts w (.slice ao ll.length cap) ll) {i : Nat} (hi : i < ll.length) : ∃ b off ua uc l, ao = some ⟨b, off, none⟩ ∧ b < w.heap.size ∧ ll[i]? = some l ∧ w.cell? ⟨b, off + i, none⟩ = some (.slice ua l.length uc) ∧ Stp w (.slice ua l.length uc) l := by
  rcases h with ⟨rfl, _⟩ | ⟨b, off, cap', e, hlt, hc⟩
  · simp at hi
  · injection e with e1
    obtain ⟨u, h1, h2⟩ := hc i _ (List.getElem?_eq_getElem hi)
    obtain ⟨ua, uc, rfl⟩ := h2.form
    exact ⟨b, off, ua, uc, _, e1, hlt, List.getElem?_eq_getElem hi, h1, h2⟩
end Go.Proofs.YtbnliibgnnegeagDoor

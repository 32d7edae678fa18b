/-
  A text cut at its newlines, in the world.
-/
import Derived.Test.YtfneffmiignapaaGreatDoorRefNumbers
namespace Go.Proofs.YtfneffmiignapaaGreatDoor
open Go.RowKit

theorem rcut_text (t : ByteArray) (ps : List (List UInt8)) (q : List UInt8) (w : World) (hs : t.size ≤ 1099511627776) (hc : cutB 10 t.data.toList = ps ++ [q]) :
    Calls Tryz.prog 25 #[.string t, .int .u8 10] w fun e w' => (∃ g cap, e = .returned (.slice (some ⟨g, 0, none⟩) (ps.length + 1) cap) ∧ g < w'.heap.size ∧ w'.cell? ⟨g, ps.length, none⟩ = some (.string ⟨q.toArray⟩) ∧ ∀ (i : Nat) p, ps[i]? = some p → w'.cell? ⟨g, i, none⟩ = some (.string ⟨p.toArray⟩)) ∧ Below w.heap.size w w' := by
  refine (cut_any t 10 10 rfl w hs).mono ?_
  rintro e w' ⟨v, rfl, ho, hb⟩
  rw [hc] at ho
  have hst := strs_of_own ho (by simp)
  obtain ⟨g, cap, rfl, hg, hcl⟩ := hst
  refine ⟨⟨g, cap, by simp, hg, hcl ps.length q (by simp), fun i p hp => hcl i p ?_⟩, hb⟩
  rw [List.getElem?_append_left (List.getElem?_eq_some_iff.1 hp).1]
  exact hp
theorem piece_len {c : UInt8} : ∀ (l cur : List UInt8) (p : List UInt8), p ∈ cutGo c cur l → p.length ≤ cur.length + l.length
  | [], cur, p, h => by simp [cutGo] at h; subst h; simp
  | x :: xs, cur, p, h => by
    by_cases hx : x = c
    · rw [cutGo_hit hx] at h
      rcases List.mem_cons.1 h with rfl | h
      · simp
      · have := piece_len xs [] p h
        simp at this ⊢
        omega
    · rw [cutGo_miss hx] at h
      have := piece_len xs _ p h
      simp at this ⊢
      omega
end Go.Proofs.YtfneffmiignapaaGreatDoor

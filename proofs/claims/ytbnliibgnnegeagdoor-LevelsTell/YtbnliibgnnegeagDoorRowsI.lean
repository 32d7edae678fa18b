/-
  Rows of numbers that a call owns.
-/
import Derived.Test.YtbnliibgnnegeagDoorLevE
import Derived.Test.YtbnliibgnnegeagDoorRdL
import Derived.Test.YtbnliibgnnegeagDoorInfo3
namespace Go.Proofs.YtbnliibgnnegeagDoor
open Go.RowKit

theorem infoInts : (Tryd.prog.info? 26).map (fun i => (i.zero, i.size, i.bytes)) = some (some (.slice none 0 0), 1, 24) := by kernel_rfl
/-- Rows of numbers that the call owns. -/
structure RI (W0 w : World) (ll : List (List Int)) (cv : Value) (us : List Value) : Prop where
  own : w.ownsRow W0.heap.size 26 1 cv us.length us
  len : us.length = ll.length
  row : ∀ (i : Nat) u g, us[i]? = some u → ll[i]? = some g → w.ownsRow W0.heap.size 3 1 u g.length (ints g) ∧ ∃ b cap, u = .slice (some ⟨b, 0, none⟩) g.length cap
  bw : Below W0.heap.size W0 w
theorem RI.first {W0 : World} : RI W0 W0 [] (.slice none 0 0) [] := ⟨World.ownsRow_nil _ _ _ _, rfl, fun i u g h => by simp at h, Below.refl _ _⟩
theorem RI.below {W0 w w' : World} {ll : List (List Int)} {cv : Value} {us : List Value} (h : RI W0 w ll cv us) (hb : Below w.heap.size w w') : RI W0 w' ll cv us :=
  ⟨own_below h.own hb (Nat.le_refl _), h.len, fun i u g hu hg => ⟨own_below (h.row i u g hu hg).1 hb (Nat.le_refl _), (h.row i u g hu hg).2⟩, h.bw.trans (hb.mono h.bw.size)⟩
theorem own_two {w : World} {base base' : Nat} {e e' : TypeId} {size size' : Nat} {v v' : Value} {n n' : Nat} {xs xs' : List Value} (h : w.ownsRow base e size v n xs) (h' : w.ownsRow base' e' size' v' n' xs') (he : e ≠ e') : ∀ g, v.ownBlock = some g → v'.ownBlock ≠ some g := fun g hg hg' => by
  rcases h.2 with ⟨rfl, _⟩ | ⟨g1, c1, u1, rfl, _, hb1, _⟩
  · cases hg
  · rcases h'.2 with ⟨rfl, _⟩ | ⟨g2, c2, u2, rfl, _, hb2, _⟩
    · cases hg'
    · simp only [Value.ownBlock, Option.some.injEq] at hg hg'
      subst hg
      subst hg'
      rw [hb1] at hb2
      simp only [Option.some.injEq, Obj.cells.injEq] at hb2
      exact he hb2.2.1
/-- One row more. -/
theorem RI.more {W0 w wb w' : World} {ll : List (List Int)} {cv cv2 : Value} {us : List Value} {g : List Int} {gb gcap : Nat} (h : RI W0 w ll cv us) (hg : w.ownsRow W0.heap.size 3 1 (.slice (some ⟨gb, 0, none⟩) g.length gcap) g.length (ints g)) (hb : Below w.heap.size w wb) (own2 : w'.ownsRow W0.heap.size 26 1 cv2 (us.length + 1) (us ++ [.slice (some ⟨gb, 0, none⟩) g.length gcap])) (hgr : wb.grownBy w' cv.ownBlock) : RI W0 w' (ll ++ [g]) cv2 (us ++ [.slice (some ⟨gb, 0, none⟩) g.length gcap]) := by
  have hB := h.below hb
  have hG := own_below hg hb (Nat.le_refl _)
  have keep : ∀ {u : Value} {n : Nat} {xs : List Value}, wb.ownsRow W0.heap.size 3 1 u n xs → w'.ownsRow W0.heap.size 3 1 u n xs := fun {u n xs} ho => own_block ho (fun k hk => hgr.block k (ho.lt k hk).2 (fun e => own_two ho hB.own (by decide) k hk e.symm))
  refine ⟨by rw [List.length_append, List.length_singleton]; exact own2, by simp [h.len], fun i u g' hu hg' => ?_, ?_⟩
  · by_cases hi : i < us.length
    · rw [List.getElem?_append_left hi] at hu
      rw [List.getElem?_append_left (by rw [← h.len]; exact hi)] at hg'
      exact ⟨keep (hB.row i u g' hu hg').1, (hB.row i u g' hu hg').2⟩
    · rw [List.getElem?_append_right (by omega)] at hu
      rw [List.getElem?_append_right (by rw [← h.len]; omega)] at hg'
      have hz : i - us.length = 0 := by
        by_cases hh : i - us.length = 0
        · exact hh
        · rw [List.getElem?_eq_none (by simp; omega)] at hu
          cases hu
      rw [hz] at hu
      rw [← h.len, hz] at hg'
      simp only [List.getElem?_cons_zero, Option.some.injEq] at hu hg'
      subst hu
      subst hg'
      exact ⟨keep hG, gb, gcap, rfl⟩
  · exact hB.bw.grown hgr (by have := hB.bw.size; omega) (fun k hk => (hB.own.lt k hk).1)
/-- They can be read. -/
theorem RI.sts {W0 w : World} {ll : List (List Int)} {cv : Value} {us : List Value} (h : RI W0 w ll cv us) : Sts w cv ll := by
  rcases row_form h.own with ⟨rfl, h0⟩ | ⟨g, cap, rfl⟩
  · exact Or.inl ⟨List.eq_nil_of_length_eq_zero (by rw [← h.len]; exact h0), _, _, rfl⟩
  · obtain ⟨_, h2, _, _, h5, _, _⟩ := own_cap h.own
    refine Or.inr ⟨g, 0, cap, by rw [← h.len], h2, fun i l hl => ?_⟩
    have hi : i < us.length := by rw [h.len]; exact (List.getElem?_eq_some_iff.1 hl).1
    have hu : us[i]? = some us[i] := List.getElem?_eq_getElem hi
    refine ⟨us[i], by rw [Nat.zero_add]; exact h5 i _ hu, ?_⟩
    obtain ⟨h6, b, cap', h7⟩ := h.row i _ l hu hl
    rw [h7] at h6 ⊢
    obtain ⟨_, h8, _, _, h9, _, _⟩ := own_cap h6
    exact Or.inr ⟨b, 0, cap', rfl, h8, fun j x hx => by rw [Nat.zero_add]; exact h9 j _ (ints_at hx)⟩
theorem grp_yes {l : List W4} {a k : Nat} (h : both l a k = true) : grpTo l a (k + 1) = grpTo l a k ++ [(k : Int)] := by rw [grpTo, if_pos h]
theorem grp_no {l : List W4} {a k : Nat} (h : both l a k = false) : grpTo l a (k + 1) = grpTo l a k := by rw [grpTo, if_neg (by rw [h]; simp)]
theorem ring_yes {l : List W4} {k : Nat} (h : lead l k = true) : ringsTo l (k + 1) = ringsTo l k ++ [grp l k] := by rw [ringsTo, if_pos h]
theorem ring_no {l : List W4} {k : Nat} (h : lead l k = false) : ringsTo l (k + 1) = ringsTo l k := by rw [ringsTo, if_neg (by rw [h]; simp)]
end Go.Proofs.YtbnliibgnnegeagDoor

/-
  The law FlowUp: what its walks ask alike.
-/
import Derived.Test.YtpbdfcfifkonkacFlowOwn
import Derived.Test.YtpbdfcfifkonkacFlLevels
namespace Go.Proofs.Ytpbdfcfifkonkac
open Go.RowKit

/-- What Reach tells. -/
def rchE (l : List W4) (a b : Int) : Int := if (wschk l).2 ≠ 0 then (wschk l).2 else if (0 ≤ a ∧ a < 5) ∧ (0 ≤ b ∧ b < 5) then 0 else 1
def rchB (l : List W4) (a b : Int) : Bool := if rchE l a b = 0 then way l a.toNat b.toNat else false
theorem rchE_ok {l : List W4} {a b : Int} (h : rchE l a b = 0) : (wschk l).2 = 0 ∧ (0 ≤ a ∧ a < 5) ∧ (0 ≤ b ∧ b < 5) := by
  unfold rchE at h
  split at h
  · contradiction
  · rename_i h1
    split at h
    · rename_i h2
      exact ⟨by simpa using h1, h2⟩
    · simp at h
theorem rchE_rooms {l : List W4} {a b : Int} (h : (wschk l).2 = 0) (ha : 0 ≤ a ∧ a < 5) (hb : 0 ≤ b ∧ b < 5) : rchE l a b = 0 := by
  rw [rchE, if_neg (by simpa using h), if_pos ⟨ha, hb⟩]
theorem reach_any (l : List W4) (v : Value) (a b : Int) (w : World) (hl : Wrs w v l) :
    Calls Try.prog 5 #[v, .int .i64 a, .int .i64 b] w fun e w' => e = .returned (.tuple #[.bool (rchB l a b), wErr (rchE l a b)]) ∧ Below w.heap.size w w' := by
  by_cases h : (wschk l).2 = 0
  · by_cases hr : (0 ≤ a ∧ a < 5) ∧ (0 ≤ b ∧ b < 5)
    · have e1 : rchE l a b = 0 := rchE_rooms h hr.1 hr.2
      have e2 : rchB l a b = way l a.toNat b.toNat := by rw [rchB, if_pos e1]
      obtain ⟨n, rfl⟩ : ∃ n : Nat, a = n := ⟨a.toNat, by omega⟩
      obtain ⟨m, rfl⟩ : ∃ m : Nat, b = m := ⟨b.toNat, by omega⟩
      rw [e1, e2, Int.toNat_natCast, Int.toNat_natCast]
      exact reach_ok l v n m w hl h (by omega) (by omega)
    · have e1 : rchE l a b = 1 := by rw [rchE, if_neg (by simpa using h), if_neg hr]
      have e2 : rchB l a b = false := by rw [rchB, if_neg (by rw [e1]; decide)]
      rw [e1, e2]
      exact reach_out l v a b w hl h hr
  · have e1 : rchE l a b = (wschk l).2 := by rw [rchE, if_pos h]
    have e2 : rchB l a b = false := by rw [rchB, if_neg (by rw [e1]; exact h)]
    rw [e1, e2, wErr_not h]
    exact reach_bad l v a b w hl h
/-- Levels that are kept are kept along each way. -/
theorem lv_way {l : List W4} {lv : List Int} (h : lvE l lv = 0) {a b : Nat} (hw : way l a b = true) : lv.length = 5 ∧ lvl lv a ≤ lvl lv b := by
  unfold lvE at h
  split at h
  · contradiction
  · split at h
    · simp at h
    · rename_i h5
      split at h
      · simp at h
      · rename_i hd
        refine ⟨by simpa using h5, way_least (R := fun i k => lvl lv (i : Int) ≤ lvl lv (k : Int)) (fun _ => Int.le_refl _) (fun x hx i k h1 h2 => ?_) (fun _ _ _ h1 h2 => Int.le_trans h1 h2) hw⟩
        have : dwn lv x = false := by
          cases hq : dwn lv x with
          | false => rfl
          | true => exact absurd (List.any_eq_true.2 ⟨x, hx, hq⟩) hd
        unfold dwn at this
        rw [h1, h2] at this
        simpa using this
theorem lv_five {l : List W4} {lv : List Int} (h : lvE l lv = 0) : lv.length = 5 := by
  unfold lvE at h
  split at h
  · contradiction
  · split at h
    · simp at h
    · rename_i h5
      simpa using h5
/-- append of wires onto nil. -/
theorem append_wires (l : List W4) (v : Value) (W : World) (base : Nat) (ty : TypeId) (hl : Wrs W v l) (hlen : l.length ≤ 12) (hb : base ≤ W.heap.size) :
    ∃ v' W', (Builtin.append_ #[22, 22] ty #[.slice none 0 0, v]).run Try.prog W = .ok v' W' ∧ W'.ownsRow base 25 4 v' l.length (wrCells l) ∧ W.grownBy W' none := by
  obtain ⟨ii, hi, hz0, hz1, hz2⟩ := info_parts infoWr
  rcases hl with ⟨rfl, ao, cap, rfl⟩ | ⟨b, off, cap, rfl, hcap, hlt, hc⟩
  · refine ⟨.slice none 0 0, W, ?_, World.ownsRow_nil _ _ _ _, World.grownBy.refl _ _⟩
    cases ao <;> simp [Builtin.append_, run_underlying Try.underlying22, sizeOf, typeInfo, hi, Builtin.lenOf, Builtin.firstCells, loadCells, loadCellsFrom]
  · have hnews : ∀ j u, (wrCells l)[j]? = some u → W.cell? ((⟨b, off, none⟩ : Addr).add j) = some u := fun j u hu => by
      have hj : j < l.length * 4 := by
        have := (List.getElem?_eq_some_iff.1 hu).1
        rw [wrCells_len] at this
        exact this
      obtain ⟨o, ho⟩ : ∃ o, l[j / 4]? = some o := ⟨_, List.getElem?_eq_getElem (show j / 4 < l.length by omega)⟩
      obtain ⟨g0, g1, g2, g3⟩ := wrCells_at l (j / 4) o ho
      obtain ⟨k0, k1, k2, k3⟩ := hc (j / 4) o ho
      rw [Addr.add_lit]
      obtain hq | hq | hq | hq : j = j / 4 * 4 ∨ j = j / 4 * 4 + 1 ∨ j = j / 4 * 4 + 2 ∨ j = j / 4 * 4 + 3 := by omega
      · rw [hq] at hu ⊢
        rw [g0] at hu
        rw [← hu]
        exact k0
      · rw [hq] at hu ⊢
        rw [g1] at hu
        rw [← hu, ← Nat.add_assoc]
        exact k1
      · rw [hq] at hu ⊢
        rw [g2] at hu
        rw [← hu, ← Nat.add_assoc]
        exact k2
      · rw [hq] at hu ⊢
        rw [g3] at hu
        rw [← hu, ← Nat.add_assoc]
        exact k3
    obtain ⟨v', W', h1, h2, h3, _⟩ := run_append_own (P := Try.prog) W base 22 ty 25 ii (.agg #[.int .i64 0, .int .i64 0, .int .i64 0, .int .i64 0]) 4 32 Try.underlying22 hi hz0 hz1 hz2 rfl (by decide) (.slice none 0 0) 0 [] (World.ownsRow_nil _ _ _ _) ⟨b, off, none⟩ l.length cap (wrCells l) (wrCells_len l) hnews (wrCells_one l) (by unfold maxLen; omega) (by omega) hb
    rw [Nat.zero_add, List.nil_append] at h2
    exact ⟨v', W', h1, h2, h3⟩
end Go.Proofs.Ytpbdfcfifkonkac

/-
  The law RoomTells: of any code and any state.
-/
import Derived.Test.YthbcbdedmillaaaDoorRTells2
import Derived.Test.YthbcbdedmillaaaDoorRTells3
import Derived.Test.YthbcbdedmillaaaDoorRefStep6
namespace Go.Proofs.YthbcbdedmillaaaDoor
open Go.RowKit

theorem rtells_any (l : List O3) (v : Value) (s : St) (got : Int) (is : Bool) (w : World) (hf : Forms w) (hg : ErrT w) (hl : Ops w v l) :
    Calls Tryd.prog 5 #[v, stV s, .int .i64 got, .bool is] w fun ev w' => ev = .returned (.bool true) ∧ Below w.heap.size w w' := by
  obtain ⟨ao, cap, rfl⟩ := hl.form
  have hR := fun W hl => refcode_any (.slice ao l.length cap) l W hl
  have hC := fun W hf hl => rcheck_any l (.slice ao l.length cap) s W hf hl
  have hS := fun W hf hl => rstep_any l (.slice ao l.length cap) s got is W hf hl
  have hT := fun W => refstate_any s l.length W
  by_cases hc : (chk l).2 = 0
  · rw [hc] at hR
    by_cases hs : stOk s l.length = true
    · have hr : rchk l s = 0 := by unfold rchk; rw [if_pos hc, if_pos hs]
      rw [hr] at hC
      rw [hs] at hT
      by_cases hgo : is = true ∧ (got < 0 ∨ 999 < got)
      · have hgc : gchk l s got is = 1 := by unfold gchk; rw [if_pos hr, if_pos hgo]
        rw [show stepT l s got is = .tuple #[stV st0, .int .i64 0, errV 1] by unfold stepT; rw [if_neg (by omega), hgc]] at hS
        obtain ⟨rfl, h | h⟩ := hgo
        · exact rtells_got0 l ao cap s got _ h w hf hg hl hR hT hC hS
        · exact rtells_got1 l ao cap s got _ h w hf hg hl hR hT hC hS
      · have hgc : gchk l s got is = 0 := by unfold gchk; rw [if_pos hr, if_neg hgo]
        have hQ := fun W hl => refstep_any l (.slice ao l.length cap) s got is W hl hr
        rw [show stepT l s got is = .tuple #[stV (stepF (l.getD s.p.toNat (0, 0, 0)) s l.length got is), .int .i64 (sendF (l.getD s.p.toNat (0, 0, 0)) s), .nilIface] from if_pos hgc] at hS
        cases is with
        | false => exact rtells_no l ao cap s got _ _ _ w hf hg hl hR hT hC hQ hS
        | true =>
          have h0 : ¬ (got < 0 ∨ 999 < got) := fun h => hgo ⟨rfl, h⟩
          exact rtells_is l ao cap s got _ _ _ (by omega) (by omega) w hf hg hl hR hT hC hQ hS
    · have hs' : stOk s l.length = false := by simpa using hs
      have hr : rchk l s = 1 := by unfold rchk; rw [if_pos hc, if_neg hs]
      have hgc : gchk l s got is = 1 := by unfold gchk; rw [if_neg (by omega), hr]
      rw [hr] at hC
      rw [hs'] at hT
      rw [show stepT l s got is = .tuple #[stV st0, .int .i64 0, errV 1] by unfold stepT; rw [if_neg (by omega), hgc]] at hS
      exact rtells_state l ao cap s got _ is w hf hg hl hR hT hC hS
  · have hr : rchk l s = (chk l).2 := by unfold rchk; rw [if_neg hc]
    have hgc : gchk l s got is = (chk l).2 := by unfold gchk; rw [if_neg (by rw [hr]; exact hc), hr]
    rw [hr] at hC
    rw [show stepT l s got is = .tuple #[stV st0, .int .i64 0, errV (chk l).2] by unfold stepT; rw [if_neg (by rw [hgc]; exact hc), hgc]] at hS
    rw [show errV (chk l).2 = .iface 58 (.int .i64 (chk l).2) from by simp [errV, hc]] at hC hS
    exact rtells_code l ao cap s got _ is _ hc w hf hg hl hR hC hS
end Go.Proofs.YthbcbdedmillaaaDoor

/-
  PROVED: framelaw2.LevelsUp returns true, of every wires and other levels: by the least levels no wire leads down, and one leads across just within a group; who is in one group is on one level; no other levels of that kind are lower anywhere.
  Conditions: none.
-/
import Derived.Test.YtbnliibgnnegeagLUp
import Derived.Test.YtbnliibgnnegeagLvLeast
import Derived.Test.YtbnliibgnnegeagLvRings
import Derived.Test.YtbnliibgnnegeagFlowOpen
import Derived.Test.YtbnliibgnnegeagTrod
import Derived.Test.YtbnliibgnnegeagWOpen
namespace Go.Proofs.Ytbnliibgnnegeag
open Go.ChangeShapes Go.WideShapes Go.ChangeAt Go.WideElems Go.RowKit

set_option maxRecDepth 100000 in
theorem lvu_lifted (os : Os) (started : os.Started) (H : Type) (enc : TypeId × Value → H) :
    ReturnsInHanded {} Try.checked os 3 .any (Rows.levelsUpSpec.pre6 enc Try.prog Try.f3 Rows.levelsUpRow.domain false)
      (Rows.levelsUpSpec.post enc Try.prog Try.f3 false true false false) := by
  refine returnsInHanded_of_change (C := Try.checked) own started (by kernel_rfl) Try.func3
    (ChangeSpec.witness6 (enc := enc) (C := Try.checked) false ⟨#[], #[.slice none 0 0, .slice none 0 0], []⟩ 8 (by kernel_rfl) (by kernel_rfl) (by kernel_rfl) (by kernel_rfl)) ?_
  intro W base args ds gs before hval0 hW hcnd _
  have hval : ∀ (j : Nat) t v, Try.f3.params[j]? = some t → args[j]? = some v → Value.okWide Try.prog W .any base t v := hval0
  have hW' := hW
  obtain ⟨p, q, hA0, hV, rfl, hfz, hnd⟩ := hW
  have hA : DataW.TrodAll enc Try.prog W 0 (fun _ => true) true Try.f3.params.toList args.toList ds p := hA0
  rw [Try.params3] at hA hval
  obtain ⟨v0, v1, d0, d1, p0, p1, rfl, rfl, rfl, h0, h1⟩ := trodAll_two hA
  obtain ⟨rfl, rfl⟩ := trodVars_none hV
  obtain ⟨l, hl⟩ := open_wrs (hval 0 22 v0 rfl rfl) h0
  obtain ⟨ot, hot⟩ := open_stp (hval 1 23 v1 rfl rfl) h1
  refine (lup_of (G := fun _ => True) (fun _ _ _ _ => trivial) (lev_least_ok _) (lev_rings _) l v0 v1 ot W trivial hl hot).mono fun e W' ⟨he, hb⟩ => ?_
  subst he
  exact ⟨_, rfl, law_post (by kernel_rfl) (by kernel_rfl) rfl hW' rfl hb⟩

theorem levelsUp_holds : Rows.LevelsUpSaid :=
  OpenClaim.holds_of_wide 3 Try.f3 rfl rfl rfl rfl rfl rfl rfl ⟨rfl, rfl, rfl, rfl, rfl⟩ rfl rfl rfl rfl rfl (by kernel_rfl) Try.func3 (by kernel_rfl)
    (of_decide_eq_true (by kernel_rfl)) (by unfold Func.isWrapper; first | (rw [if_pos (by decide +kernel)]; kernel_rfl) | (rw [if_neg (by decide +kernel)]; exact ⟨rfl, rfl⟩))
    (fun os started H enc _ => lvu_lifted os started H enc)
#print axioms levelsUp_holds
end Go.Proofs.Ytbnliibgnnegeag

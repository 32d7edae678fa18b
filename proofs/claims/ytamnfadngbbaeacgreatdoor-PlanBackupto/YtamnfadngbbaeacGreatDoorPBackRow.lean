/-
  PROVED: framelaw1.PlanBack returns true, of every plan and every text that are together of bulk at most 1048576.
  Conditions: the listed package variables hold when the call begins what the program's own text lays (the card ties it); the bound, as the row says.
-/
import Derived.Test.YtamnfadngbbaeacGreatDoorPBack
import Derived.Test.YtamnfadngbbaeacGreatDoorPlCs
import Derived.Test.YtamnfadngbbaeacGreatDoorLaidA
import Derived.Test.YtamnfadngbbaeacGreatDoorCards
import Derived.Test.YtamnfadngbbaeacGreatDoorTie
import Derived.Deep.DeepHandedRow
import Derived.ChangeMaps5
namespace Go.Proofs.YtamnfadngbbaeacGreatDoor
open Go.ChangeShapes Go.WideShapes Go.ChangeAt Go.WideElems Go.RowKit

theorem back_tabs {W : World} (h : laidMetH Tryz.prog Rows.planBackUptoRow.laid W) : PlG W := by
  rw [MakeChecks.laidMetH_plain _ _ _ (by kernel_rfl)] at h
  have h2 := laidMet.tail (laidMet.tail h)
  have h5 := laidMet.tail (laidMet.tail (laidMet.tail h2))
  exact ⟨⟨⟨forms_of_head (laidMet.tail h5), pow_of_head h2⟩, errS_of_head h5⟩, parts_of_head (laidMet.tail (laidMet.tail h5))⟩

def backArgs : Array Value := #[.agg #[.slice none 0 0, .int .i64 0, .slice none 0 0, .slice none 0 0], .string ⟨#[]⟩]
noncomputable def backWorld (os : Os) : World := World.laidAll Tryz.prog os Rows.planBackUptoRow.laid

set_option maxRecDepth 100000 in
theorem back_witness (os : Os) (H : Type) (enc : TypeId × Value → H) : ∃ (w : World) (tape : Tape) (i : Input), w.os = os ∧ (w.forCall tape i).Shaped Tryz.prog ∧ i.vars = [] ∧ Input.okWide Tryz.prog (w.forCall tape i) .any w.heap.size 4 i ∧
      (Rows.OpenSpec.upto Rows.planBackSpec).preRow enc Tryz.prog Tryz.f4 Rows.planBackUptoRow.domain false Rows.planBackUptoRow.laid (w.forCall tape i).memory i.args ∧ ({} : Assume).holds Tryz.prog (lone (Frame.enter Tryz.prog 4 i.args .normal) [] (w.forCall tape i)) := by
  have hok : Input.okWideB Tryz.prog ((backWorld os).forCall (fun _ _ => 0) ⟨#[], backArgs, []⟩) 4 ⟨#[], backArgs, []⟩ = true := by kernel_rfl
  have hx : ∃ places, DataW.whole enc Tryz.prog ((backWorld os).forCall (fun _ _ => 0) ⟨#[], backArgs, []⟩).memory Tryz.f4.params.toList Rows.planBackSpec.vars false backArgs.toList 8 = some ([.agg [.nil, .lit (.int .i64 0), .nil, .nil], .lit (.string [])], [], places) := ⟨[], by kernel_rfl⟩
  obtain ⟨places, hx⟩ := hx
  refine ⟨backWorld os, fun _ _ => 0, ⟨#[], backArgs, []⟩, World.laidAll_os _ _ _, World.shaped_of_ZipB (by kernel_rfl) (by kernel_rfl), (Input.okWide_of_okWideB (base := 0) hok).1, (Input.okWide_of_okWideB hok).2, ?_, ?_⟩
  · refine OpenSpec.preRow_of_cond 8 hx (by kernel_rfl) (fun k hk => by cases hk; kernel_rfl) (by kernel_rfl) ?_
    rw [MakeChecks.laidMetH_plain _ _ _ (by kernel_rfl)]
    exact laidMet_laidAll _ (by kernel_rfl) (by kernel_rfl)
  · simp only [Assume.holds]
    exact ⟨by simp, by simp, fun h => by simp at h, by simp, by simp⟩

set_option maxRecDepth 100000 in
theorem back_lifted (os : Os) (started : os.Started) (H : Type) (enc : TypeId × Value → H) (F : Stop.Interp) :
    ReturnsInHanded {} Tryz.checked os 4 .any ((Rows.OpenSpec.upto Rows.planBackSpec).preRow enc Tryz.prog Tryz.f4 Rows.planBackUptoRow.domain false Rows.planBackUptoRow.laid) (((Rows.OpenSpec.upto Rows.planBackSpec).at F).post enc Tryz.prog Tryz.f4 false true false false) := by
  refine returnsInHanded_of_row (C := Tryz.checked) (s := Rows.OpenSpec.upto Rows.planBackSpec) own started (by kernel_rfl) Tryz.func4 (back_witness os H enc) ?_
  intro W base args ds gs before hval0 hW _ hcond _ hL _ _
  have hval : ∀ (j : Nat) t v, Tryz.f4.params[j]? = some t → args[j]? = some v → Value.okWide Tryz.prog W .any base t v := hval0
  have hW' := hW
  obtain ⟨p, q, hA0, hV, rfl, hfz, hnd⟩ := hW
  have hA : DataW.TrodAll enc Tryz.prog W 0 (fun _ => true) true Tryz.f4.params.toList args.toList ds p := hA0
  rw [Tryz.params4] at hA hval
  obtain ⟨v0, v1, d0, d1, p0, p1, rfl, rfl, rfl, h0, h1⟩ := trodAll_two hA
  obtain ⟨rfl, rfl⟩ := trodVars_none hV
  have hbound : Rows.uptoBulkAll ([d0, d1] ++ []) ≤ 1048576 := by
    have := hcond _ rfl
    simpa [Rows.uptoSmall] using this
  obtain ⟨vc, vs, vw, pd, rfl, hpl⟩ := open_plan (hval 0 26 v0 rfl rfl) h0
  obtain ⟨t, rfl, rfl, rfl, _⟩ := Go.ChangeMaps.open_string Tryz.underlying9 (hval 1 9 v1 rfl rfl) h1
  have ht : t.size ≤ 1099511627776 := by
    simp [Rows.uptoBulkAll, Rows.uptoBulk] at hbound
    have : t.size = t.data.size := rfl
    omega
  refine (pback_of plan_cb plan_fr pd vc vs vw t W (back_tabs hL) hpl ht).mono fun e W' ⟨he, hb⟩ => ?_
  subst he
  exact ⟨_, rfl, law_post (s := Rows.planBackSpec) (by kernel_rfl) (by kernel_rfl) rfl hW' rfl hb⟩

theorem planBack_saidUpto : Rows.PlanBackUptoSaid :=
  OpenClaim.holds_of_cond 4 Tryz.f4 rfl rfl rfl rfl rfl rfl rfl ⟨rfl, rfl, rfl, rfl, rfl⟩ rfl rfl rfl rfl rfl (by kernel_rfl) Tryz.func4 (by kernel_rfl)
    (of_decide_eq_true (by kernel_rfl)) (by unfold Func.isWrapper; first | (rw [if_pos (by decide +kernel)]; kernel_rfl) | (rw [if_neg (by decide +kernel)]; exact ⟨rfl, rfl⟩))
    (fun os started H enc _ F => by rw [OpenClaim.pre_eq_preRow]; exact back_lifted os started H enc F)

theorem planBackUpto_holds : Rows.PlanBackUptoCardSaid :=
  Claim7.holds_tied_plain_at .later [] _ true _ true
    planBack_saidUpto (fun _ h => by cases h) (by kernel_rfl) (fun _ h => by cases h) planBackUpto_row_tie rfl ⟨rfl, rfl⟩ (by kernel_rfl) rfl
    (fun f fn hf hfn => by
      obtain rfl : f = 4 := Option.some.inj ((show Tryz.prog.funcNamed "framekeep/framelaw1.PlanBack" = some 4 by kernel_rfl).symm.trans hf) |>.symm
      obtain rfl : fn = Tryz.f4 := (Option.some.inj (Tryz.func4.symm.trans hfn)).symm
      exact ⟨by kernel_rfl, fun j t ht => by
        rw [Tryz.params4] at ht
        have hm : t ∈ [26, 9] := by simpa using Array.mem_of_getElem? ht
        have hall : ([26, 9].all fun u => !Tryz.prog.wantsStandIn u) = true := by kernel_rfl
        exact (show Tryz.prog.wantsStandIn t = false by simpa using List.all_eq_true.1 hall t hm)⟩)
    (by kernel_rfl)
#print axioms planBackUpto_holds
end Go.Proofs.YtamnfadngbbaeacGreatDoor

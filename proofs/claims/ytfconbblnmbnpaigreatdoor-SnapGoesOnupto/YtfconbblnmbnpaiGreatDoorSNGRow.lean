/-
  PROVED: framelaw3.SnapGoesOn returns true, of every plan, n, m and text that are together of bulk at most 1048576: what was saved, and loaded, does from then on what it would have done; and saved again it is the same text.
  Conditions: the listed package variables hold when the call begins what the program's own text lays (the card ties it); the bound, as the row says.
-/
import Derived.Test.YtfconbblnmbnpaiGreatDoorSnGoes
import Derived.Test.YtfconbblnmbnpaiGreatDoorSnSave
import Derived.Test.YtfconbblnmbnpaiGreatDoorJa15
import Derived.Test.YtfconbblnmbnpaiGreatDoorJa17
import Derived.Test.YtfconbblnmbnpaiGreatDoorJa3
import Derived.Test.YtfconbblnmbnpaiGreatDoorJa2
import Derived.Test.YtfconbblnmbnpaiGreatDoorJa5
import Derived.Test.YtfconbblnmbnpaiGreatDoorCards
import Derived.Test.YtfconbblnmbnpaiGreatDoorTie
import Derived.Deep.DeepHandedRow
import Derived.ChangeMaps5
import Derived.LaidHandle
import Derived.Lay
import Derived.SizedLaws
namespace Go.Proofs.YtfconbblnmbnpaiGreatDoor
open Go.ChangeShapes Go.WideShapes Go.ChangeAt Go.WideElems Go.RowKit

/-- The worlds in which the law is walked. -/
structure SngG (w : World) : Prop where
  forms : Forms w
  pow : Pow10 w
  errs : ErrS w
theorem sng_all (w w' : World) (h : SngG w) (hb : Below w.heap.size w w') : SngG w' := ⟨h.forms.all hb, h.pow.all hb, h.errs.all hb⟩
noncomputable def sngWorld (os : Os) : World := World.laidAll Tryz.prog os Rows.snapGoesOnUptoRow.laid
theorem sng_met (os : Os) (args : Array Value) : laidMetH Tryz.prog Rows.snapGoesOnUptoRow.laid ((sngWorld os).forCall (fun _ _ => 0) ⟨#[], args, []⟩).memory := by
  rw [MakeChecks.laidMetH_plain _ _ _ (by kernel_rfl)]
  exact laidMet_laidAll _ (by kernel_rfl) (by kernel_rfl)
theorem sng_facts {W : World} (h : laidMetH Tryz.prog Rows.snapGoesOnUptoRow.laid W) : SngG W := by
  rw [MakeChecks.laidMetH_plain _ _ _ (by kernel_rfl)] at h
  have h1 := laidMet.tail h
  have h2 := laidMet.tail h1
  have h3 := laidMet.tail h2
  have h4 := laidMet.tail h3
  have h5 := laidMet.tail h4
  have h6 := laidMet.tail h5
  exact ⟨forms_of_head h6, pow_of_head h2, errS_of_head h5⟩

def sngArgs : Array Value := #[.agg #[.slice none 0 0, .int .i64 0, .slice none 0 0, .slice none 0 0], .int .i64 0, .int .i64 0, .string ⟨#[]⟩]
set_option maxRecDepth 100000 in
theorem sng_witness (os : Os) (H : Type) (enc : TypeId × Value → H) : ∃ (w : World) (tape : Tape) (i : Input), w.os = os ∧ (w.forCall tape i).Shaped Tryz.prog ∧ i.vars = [] ∧ Input.okWide Tryz.prog (w.forCall tape i) .any w.heap.size 3 i ∧
      (Rows.OpenSpec.upto Rows.snapGoesOnSpec).preRow enc Tryz.prog Tryz.f3 Rows.snapGoesOnUptoRow.domain false Rows.snapGoesOnUptoRow.laid (w.forCall tape i).memory i.args ∧ ({} : Assume).holds Tryz.prog (lone (Frame.enter Tryz.prog 3 i.args .normal) [] (w.forCall tape i)) := by
  have hok : Input.okWideB Tryz.prog ((sngWorld os).forCall (fun _ _ => 0) ⟨#[], sngArgs, []⟩) 3 ⟨#[], sngArgs, []⟩ = true := by kernel_rfl
  have hx : ∃ places, DataW.whole enc Tryz.prog ((sngWorld os).forCall (fun _ _ => 0) ⟨#[], sngArgs, []⟩).memory Tryz.f3.params.toList Rows.snapGoesOnSpec.vars false sngArgs.toList 8 = some ([.agg [.nil, .lit (.int .i64 0), .nil, .nil], .lit (.int .i64 0), .lit (.int .i64 0), .lit (.string [])], [], places) := ⟨[], by kernel_rfl⟩
  obtain ⟨places, hx⟩ := hx
  refine ⟨sngWorld os, fun _ _ => 0, ⟨#[], sngArgs, []⟩, World.laidAll_os _ _ _, World.shaped_of_ZipB (by kernel_rfl) (by kernel_rfl), (Input.okWide_of_okWideB (base := 0) hok).1, (Input.okWide_of_okWideB hok).2, ?_, ?_⟩
  · exact OpenSpec.preRow_of_cond 8 hx (by kernel_rfl) (fun k hk => by cases hk; kernel_rfl) (by kernel_rfl) (sng_met os _)
  · simp only [Assume.holds]
    exact ⟨by simp, by simp, fun h => by simp at h, by simp, by simp⟩
set_option maxRecDepth 100000 in
theorem sng_lifted (os : Os) (started : os.Started) (H : Type) (enc : TypeId × Value → H) (F : Stop.Interp) :
    ReturnsInHanded {} Tryz.checked os 3 .any ((Rows.OpenSpec.upto Rows.snapGoesOnSpec).preRow enc Tryz.prog Tryz.f3 Rows.snapGoesOnUptoRow.domain false Rows.snapGoesOnUptoRow.laid) (((Rows.OpenSpec.upto Rows.snapGoesOnSpec).at F).post enc Tryz.prog Tryz.f3 false true false false) := by
  refine returnsInHanded_of_row (C := Tryz.checked) (s := Rows.OpenSpec.upto Rows.snapGoesOnSpec) own started (by kernel_rfl) Tryz.func3 (sng_witness os H enc) ?_
  intro W base args ds gs before hval0 hW _ hcond _ hL _ _
  have hval : ∀ (j : Nat) t v, Tryz.f3.params[j]? = some t → args[j]? = some v → Value.okWide Tryz.prog W .any base t v := hval0
  have hW' := hW
  obtain ⟨p, q, hA0, hV, rfl, hfz, hnd⟩ := hW
  have hA : DataW.TrodAll enc Tryz.prog W 0 (fun _ => true) true Tryz.f3.params.toList args.toList ds p := hA0
  rw [Tryz.params3] at hA hval
  obtain ⟨v0, v1, v2, v3, d0, d1, d2, d3, p0, p1, p2, p3, rfl, rfl, h0, h1, h2, h3⟩ := trodAll_four hA
  obtain ⟨rfl, rfl⟩ := trodVars_none hV
  have hbound : Rows.uptoBulkAll ([d0, d1, d2, d3] ++ []) ≤ 1048576 := by
    have := hcond _ rfl
    simpa [Rows.uptoSmall] using this
  obtain ⟨vc, vs, vw, pd, rfl, hpl⟩ := open_plan (hval 0 26 v0 rfl rfl) h0
  obtain ⟨n1, rfl⟩ := okWide_int Tryz.underlying3 (hval 1 3 v1 rfl rfl)
  obtain ⟨n2, rfl⟩ := okWide_int Tryz.underlying3 (hval 2 3 v2 rfl rfl)
  obtain ⟨t3, rfl, rfl, rfl, _⟩ := Go.ChangeMaps.open_string Tryz.underlying9 (hval 3 9 v3 rfl rfl) h3
  have ht3 : t3.size ≤ 1099511627776 := by
    simp [Rows.uptoBulkAll, Rows.uptoBulk] at hbound
    have : t3.size = t3.data.size := rfl
    omega
  refine (sgoes_of (gker (G := SngG) (fun _ h => h.forms) sng_all) (gker_time _ _) (snp_save (fun _ h => h.forms) (fun _ h => h.pow) (gker (G := SngG) (fun _ h => h.forms) sng_all) (gker_wire _ _) (gker_time _ _)) (snp_load (fun _ h => h.forms) (fun _ h => ⟨⟨h.forms, h.pow⟩, h.errs⟩) sng_all) (snp_no (fun _ h => h.forms) (fun _ h => ⟨⟨h.forms, h.pow⟩, h.errs⟩) sng_all) pd vc vs vw n1 n2 t3 W (sng_facts hL) hpl ht3).mono fun e W' ⟨he, hb⟩ => ?_
  subst he
  exact ⟨_, rfl, law_post (s := Rows.snapGoesOnSpec) (by kernel_rfl) (by kernel_rfl) rfl hW' rfl hb⟩

theorem snapGoesOn_saidUpto : Rows.SnapGoesOnUptoSaid :=
  OpenClaim.holds_of_cond 3 Tryz.f3 rfl rfl rfl rfl rfl rfl rfl ⟨rfl, rfl, rfl, rfl, rfl⟩ rfl rfl rfl rfl rfl (by kernel_rfl) Tryz.func3 (by kernel_rfl)
    (of_decide_eq_true (by kernel_rfl)) (by unfold Func.isWrapper; first | (rw [if_pos (by decide +kernel)]; kernel_rfl) | (rw [if_neg (by decide +kernel)]; exact ⟨rfl, rfl⟩))
    (fun os started H enc _ F => by rw [OpenClaim.pre_eq_preRow]; exact sng_lifted os started H enc F)

theorem snapGoesOnUpto_holds : Rows.SnapGoesOnUptoCardSaid :=
  Claim7.holds_tied_plain_at .later [] _ true _ true
    snapGoesOn_saidUpto (fun _ h => by cases h) (by kernel_rfl) (fun _ h => by cases h) snapGoesOnUpto_row_tie rfl ⟨rfl, rfl⟩ (by kernel_rfl) rfl
    (fun f fn hf hfn => by
      obtain rfl : f = 3 := Option.some.inj ((show Tryz.prog.funcNamed "framekeep/framelaw3.SnapGoesOn" = some 3 by kernel_rfl).symm.trans hf) |>.symm
      obtain rfl : fn = Tryz.f3 := (Option.some.inj (Tryz.func3.symm.trans hfn)).symm
      exact ⟨by kernel_rfl, fun j t ht => by
        rw [Tryz.params3] at ht
        have hm : t ∈ [26, 3, 3, 9] := by simpa using Array.mem_of_getElem? ht
        have hall : ([26, 3, 3, 9].all fun u => !Tryz.prog.wantsStandIn u) = true := by kernel_rfl
        exact (show Tryz.prog.wantsStandIn t = false by simpa using List.all_eq_true.1 hall t hm)⟩)
    (by kernel_rfl)
#print axioms snapGoesOnUpto_holds
end Go.Proofs.YtfconbblnmbnpaiGreatDoor

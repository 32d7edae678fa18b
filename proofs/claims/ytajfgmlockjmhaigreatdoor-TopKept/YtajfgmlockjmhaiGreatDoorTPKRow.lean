/-
  PROVED: frametop.TopKept returns true, of every plan, n, m, room and whether it was synced: what goes on behind a save, and what a log that lost its end comes to, is what goes on without.
  Conditions: the listed package variables hold when the call begins what the program's own text lays (the card ties it); none else.
-/
import Derived.Test.YtajfgmlockjmhaiGreatDoorTpKept
import Derived.Test.YtajfgmlockjmhaiGreatDoorJt15
import Derived.Test.YtajfgmlockjmhaiGreatDoorJt21
import Derived.Test.YtajfgmlockjmhaiGreatDoorSnSave
import Derived.Test.YtajfgmlockjmhaiGreatDoorJt5
import Derived.Test.YtajfgmlockjmhaiGreatDoorJt9
import Derived.Test.YtajfgmlockjmhaiGreatDoorJt2
import Derived.Test.YtajfgmlockjmhaiGreatDoorCards
import Derived.Test.YtajfgmlockjmhaiGreatDoorTie
import Derived.Deep.DeepHandedRow
import Derived.ChangeMaps5
import Derived.LaidHandle
import Derived.Lay
import Derived.SizedLaws
namespace Go.Proofs.YtajfgmlockjmhaiGreatDoor
open Go.ChangeShapes Go.WideShapes Go.ChangeAt Go.WideElems Go.RowKit

/-- The worlds in which the law is walked. -/
structure TpkG (w : World) : Prop where
  forms : Forms w
  pow : Pow10 w
  errs : ErrS w
theorem tpk_all (w w' : World) (h : TpkG w) (hb : Below w.heap.size w w') : TpkG w' := ⟨h.forms.all hb, h.pow.all hb, h.errs.all hb⟩
noncomputable def tpkWorld (os : Os) : World := World.laidAll Tryz.prog os Rows.topKeptRow.laid
theorem tpk_met (os : Os) (args : Array Value) : laidMetH Tryz.prog Rows.topKeptRow.laid ((tpkWorld os).forCall (fun _ _ => 0) ⟨#[], args, []⟩).memory := by
  rw [MakeChecks.laidMetH_plain _ _ _ (by kernel_rfl)]
  exact laidMet_laidAll _ (by kernel_rfl) (by kernel_rfl)
theorem tpk_facts {W : World} (h : laidMetH Tryz.prog Rows.topKeptRow.laid W) : TpkG W := by
  rw [MakeChecks.laidMetH_plain _ _ _ (by kernel_rfl)] at h
  have h1 := laidMet.tail h
  have h2 := laidMet.tail h1
  have h3 := laidMet.tail h2
  have h4 := laidMet.tail h3
  have h5 := laidMet.tail h4
  have h6 := laidMet.tail h5
  exact ⟨forms_of_head h6, pow_of_head h2, errS_of_head h5⟩

set_option maxRecDepth 100000 in
theorem tpk_lifted (os : Os) (started : os.Started) (H : Type) (enc : TypeId × Value → H) :
    ReturnsInHanded {} Tryz.checked os 8 .any (fun w args => (Rows.topKeptSpec.pre enc Tryz.prog Tryz.f8 [] false w args ∧ laidMetH Tryz.prog Rows.topKeptRow.laid w) ∧ sizedMet enc Tryz.prog Tryz.f8 (OpenSpec.ofChange Rows.topKeptSpec) false w args)
      (Rows.topKeptSpec.post enc Tryz.prog Tryz.f8 false true false false) := by
  refine returnsInHanded_of_change_and (C := Tryz.checked) (X := fun w _ => laidMetH Tryz.prog Rows.topKeptRow.laid w) (fun _ _ _ hh h => h.of_heap hh) own started (by kernel_rfl) Tryz.func8
    (ChangeSpec.witness_shaped (enc := enc) (C := Tryz.checked) (os := os) (X := fun w _ => laidMetH Tryz.prog Rows.topKeptRow.laid w) false (tpkWorld os) #[.agg #[.slice none 0 0, .int .i64 0, .slice none 0 0, .slice none 0 0], .int .i64 0, .int .i64 0, .bool false, .int .i64 0] 8 (World.laidAll_os _ _ _) (World.shaped_of_ZipB (by kernel_rfl) (by kernel_rfl)) (by kernel_rfl) (by kernel_rfl) (by kernel_rfl) (tpk_met os _)) ?_
  intro W base args ds gs before hval0 hW _ _ hL _
  have hval : ∀ (j : Nat) t v, Tryz.f8.params[j]? = some t → args[j]? = some v → Value.okWide Tryz.prog W .any base t v := hval0
  have hW' := hW
  obtain ⟨p, q, hA0, hV, rfl, hfz, hnd⟩ := hW
  have hA : DataW.TrodAll enc Tryz.prog W 0 (fun _ => true) true Tryz.f8.params.toList args.toList ds p := hA0
  rw [Tryz.params8] at hA hval
  obtain ⟨v0, v1, v2, v3, v4, d0, d1, d2, d3, d4, p0, p1, p2, p3, p4, rfl, rfl, h0, h1, h2, h3, h4⟩ := trodAll_five hA
  obtain ⟨rfl, rfl⟩ := trodVars_none hV
  obtain ⟨vc, vs, vw, pd, rfl, hpl⟩ := open_plan (hval 0 26 v0 rfl rfl) h0
  obtain ⟨n1, rfl⟩ := okWide_int Tryz.underlying3 (hval 1 3 v1 rfl rfl)
  obtain ⟨n2, rfl⟩ := okWide_int Tryz.underlying3 (hval 2 3 v2 rfl rfl)
  obtain ⟨b3, rfl⟩ := okWide_bool Tryz.underlying4 (hval 3 4 v3 rfl rfl)
  obtain ⟨n4, rfl⟩ := okWide_int Tryz.underlying3 (hval 4 3 v4 rfl rfl)
  refine (topkept_of (glogD (gker (G := TpkG) (fun _ h => h.forms) tpk_all) (gker_poke (fun _ h => h.forms) tpk_all) (gker_time (fun _ h => h.forms) tpk_all) (fun _ h => h.pow)) (gker (G := TpkG) (fun _ h => h.forms) tpk_all) glogD_sync (glogD_crash (fun _ h => ⟨⟨h.forms, h.pow⟩, h.errs⟩)) glogD_state glogD_time (gker_time _ _) (snp_save (fun _ h => h.forms) (fun _ h => h.pow) (gker (G := TpkG) (fun _ h => h.forms) tpk_all) (gker_wire _ _) (gker_time _ _)) (snp_load (fun _ h => h.forms) (fun _ h => ⟨⟨h.forms, h.pow⟩, h.errs⟩) tpk_all) (sgt_run (gker (G := TpkG) (fun _ h => h.forms) tpk_all)) pd vc vs vw n1 n2 n4 b3 W (tpk_facts hL) hpl).mono fun e W' ⟨he, hb⟩ => ?_
  subst he
  exact ⟨_, rfl, law_post (by kernel_rfl) (by kernel_rfl) rfl hW' rfl hb⟩

theorem topKept_said : Rows.TopKeptSaid :=
  OpenClaim.holds_of_wide 8 Tryz.f8 rfl rfl rfl rfl rfl rfl rfl ⟨rfl, rfl, rfl, rfl, rfl⟩ rfl rfl rfl rfl rfl (by kernel_rfl) Tryz.func8 (by kernel_rfl)
    (of_decide_eq_true (by kernel_rfl)) (by unfold Func.isWrapper; first | (rw [if_pos (by decide +kernel)]; kernel_rfl) | (rw [if_neg (by decide +kernel)]; exact ⟨rfl, rfl⟩))
    (fun os started H enc _ => tpk_lifted os started H enc)

theorem topKept_holds : Rows.TopKeptCardSaid :=
  Claim7.holds_tied_plain_at .later [] _ true _ true
    topKept_said (fun _ h => by cases h) (by kernel_rfl) (fun _ h => by cases h) topKept_row_tie rfl ⟨rfl, rfl⟩ (by kernel_rfl) rfl
    (fun f fn hf hfn => by
      obtain rfl : f = 8 := Option.some.inj ((show Tryz.prog.funcNamed "framekeep/frametop.TopKept" = some 8 by kernel_rfl).symm.trans hf) |>.symm
      obtain rfl : fn = Tryz.f8 := (Option.some.inj (Tryz.func8.symm.trans hfn)).symm
      exact ⟨by kernel_rfl, fun j t ht => by
        rw [Tryz.params8] at ht
        have hm : t ∈ [26, 3, 3, 4, 3] := by simpa using Array.mem_of_getElem? ht
        have hall : ([26, 3, 3, 4, 3].all fun u => !Tryz.prog.wantsStandIn u) = true := by kernel_rfl
        exact (show Tryz.prog.wantsStandIn t = false by simpa using List.all_eq_true.1 hall t hm)⟩)
    (by kernel_rfl)
#print axioms topKept_holds
end Go.Proofs.YtajfgmlockjmhaiGreatDoor

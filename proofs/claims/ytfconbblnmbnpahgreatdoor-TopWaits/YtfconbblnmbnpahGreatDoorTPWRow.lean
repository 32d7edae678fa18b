/-
  PROVED: frametop.TopWaits returns true, of every plan, rules, room and number of turns: in as many ticks as a room waits for turns it has so many, whoever failed, and was helped, and what is told of it is read as it was.
  Conditions: the listed package variables hold when the call begins what the program's own text lays (the card ties it); none else.
-/
import Derived.Test.YtfconbblnmbnpahGreatDoorJc13
import Derived.Test.YtfconbblnmbnpahGreatDoorJc6
import Derived.Test.YtfconbblnmbnpahGreatDoorTcPrint
import Derived.Test.YtfconbblnmbnpahGreatDoorCarGN
import Derived.Test.YtfconbblnmbnpahGreatDoorJc14
import Derived.Test.YtfconbblnmbnpahGreatDoorKerG
import Derived.Test.YtfconbblnmbnpahGreatDoorJc5
import Derived.Test.YtfconbblnmbnpahGreatDoorJc2
import Derived.Test.YtfconbblnmbnpahGreatDoorJc4
import Derived.Test.YtfconbblnmbnpahGreatDoorCards
import Derived.Test.YtfconbblnmbnpahGreatDoorTie
import Derived.Deep.DeepHandedRow
import Derived.ChangeMaps5
import Derived.LaidHandle
import Derived.Lay
import Derived.SizedLaws
namespace Go.Proofs.YtfconbblnmbnpahGreatDoor
open Go.ChangeShapes Go.WideShapes Go.ChangeAt Go.WideElems Go.RowKit

/-- The worlds in which the law is walked. -/
structure TpwG (w : World) : Prop where
  forms : Forms w
  pow : Pow10 w
  errs : ErrS w
theorem tpw_all (w w' : World) (h : TpwG w) (hb : Below w.heap.size w w') : TpwG w' := ⟨h.forms.all hb, h.pow.all hb, h.errs.all hb⟩
noncomputable def tpwWorld (os : Os) : World := World.laidAll Tryz.prog os Rows.topWaitsRow.laid
theorem tpw_met (os : Os) (args : Array Value) : laidMetH Tryz.prog Rows.topWaitsRow.laid ((tpwWorld os).forCall (fun _ _ => 0) ⟨#[], args, []⟩).memory := by
  rw [MakeChecks.laidMetH_plain _ _ _ (by kernel_rfl)]
  exact laidMet_laidAll _ (by kernel_rfl) (by kernel_rfl)
theorem tpw_facts {W : World} (h : laidMetH Tryz.prog Rows.topWaitsRow.laid W) : TpwG W := by
  rw [MakeChecks.laidMetH_plain _ _ _ (by kernel_rfl)] at h
  have h1 := laidMet.tail h
  have h2 := laidMet.tail h1
  have h3 := laidMet.tail h2
  have h4 := laidMet.tail h3
  have h5 := laidMet.tail h4
  have h6 := laidMet.tail h5
  exact ⟨forms_of_head h6, pow_of_head h2, errS_of_head h5⟩

set_option maxRecDepth 100000 in
theorem tpw_lifted (os : Os) (started : os.Started) (H : Type) (enc : TypeId × Value → H) :
    ReturnsInHanded {} Tryz.checked os 5 .any (fun w args => (Rows.topWaitsSpec.pre enc Tryz.prog Tryz.f5 [] false w args ∧ laidMetH Tryz.prog Rows.topWaitsRow.laid w) ∧ sizedMet enc Tryz.prog Tryz.f5 (OpenSpec.ofChange Rows.topWaitsSpec) false w args)
      (Rows.topWaitsSpec.post enc Tryz.prog Tryz.f5 false true false false) := by
  refine returnsInHanded_of_change_and (C := Tryz.checked) (X := fun w _ => laidMetH Tryz.prog Rows.topWaitsRow.laid w) (fun _ _ _ hh h => h.of_heap hh) own started (by kernel_rfl) Tryz.func5
    (ChangeSpec.witness_shaped (enc := enc) (C := Tryz.checked) (os := os) (X := fun w _ => laidMetH Tryz.prog Rows.topWaitsRow.laid w) false (tpwWorld os) #[.agg #[.slice none 0 0, .int .i64 0, .slice none 0 0, .slice none 0 0], .slice none 0 0, .int .i64 0, .int .i64 0] 8 (World.laidAll_os _ _ _) (World.shaped_of_ZipB (by kernel_rfl) (by kernel_rfl)) (by kernel_rfl) (by kernel_rfl) (by kernel_rfl) (tpw_met os _)) ?_
  intro W base args ds gs before hval0 hW _ _ hL _
  have hval : ∀ (j : Nat) t v, Tryz.f5.params[j]? = some t → args[j]? = some v → Value.okWide Tryz.prog W .any base t v := hval0
  have hW' := hW
  obtain ⟨p, q, hA0, hV, rfl, hfz, hnd⟩ := hW
  have hA : DataW.TrodAll enc Tryz.prog W 0 (fun _ => true) true Tryz.f5.params.toList args.toList ds p := hA0
  rw [Tryz.params5] at hA hval
  obtain ⟨v0, v1, v2, v3, d0, d1, d2, d3, p0, p1, p2, p3, rfl, rfl, h0, h1, h2, h3⟩ := trodAll_four hA
  obtain ⟨rfl, rfl⟩ := trodVars_none hV
  obtain ⟨vc, vs, vw, pd, rfl, hpl⟩ := open_plan (hval 0 26 v0 rfl rfl) h0
  obtain ⟨l1, hl1⟩ := open_stp (hval 1 41 v1 rfl rfl) h1
  obtain ⟨n2, rfl⟩ := okWide_int Tryz.underlying3 (hval 2 3 v2 rfl rfl)
  obtain ⟨n3, rfl⟩ := okWide_int Tryz.underlying3 (hval 3 3 v3 rfl rfl)
  refine (topwaits_of (G := TpwG) (gker (G := TpwG) (fun _ h => h.forms) tpw_all) (gcarN (fun _ h => h.forms) tpw_all) (sup_wait _) (trc_of _) (trc_print (fun _ h => h.pow)) (trc_parse (fun _ h => ⟨⟨h.forms, h.pow⟩, h.errs⟩)) pd vc vs vw v1 l1 n2 n3 W (tpw_facts hL) hpl hl1).mono fun e W' ⟨he, hb⟩ => ?_
  subst he
  exact ⟨_, rfl, law_post (by kernel_rfl) (by kernel_rfl) rfl hW' rfl hb⟩

theorem topWaits_said : Rows.TopWaitsSaid :=
  OpenClaim.holds_of_wide 5 Tryz.f5 rfl rfl rfl rfl rfl rfl rfl ⟨rfl, rfl, rfl, rfl, rfl⟩ rfl rfl rfl rfl rfl (by kernel_rfl) Tryz.func5 (by kernel_rfl)
    (of_decide_eq_true (by kernel_rfl)) (by unfold Func.isWrapper; first | (rw [if_pos (by decide +kernel)]; kernel_rfl) | (rw [if_neg (by decide +kernel)]; exact ⟨rfl, rfl⟩))
    (fun os started H enc _ => tpw_lifted os started H enc)

theorem topWaits_holds : Rows.TopWaitsCardSaid :=
  Claim7.holds_tied_plain_at .later [] _ true _ true
    topWaits_said (fun _ h => by cases h) (by kernel_rfl) (fun _ h => by cases h) topWaits_row_tie rfl ⟨rfl, rfl⟩ (by kernel_rfl) rfl
    (fun f fn hf hfn => by
      obtain rfl : f = 5 := Option.some.inj ((show Tryz.prog.funcNamed "framekeep/frametop.TopWaits" = some 5 by kernel_rfl).symm.trans hf) |>.symm
      obtain rfl : fn = Tryz.f5 := (Option.some.inj (Tryz.func5.symm.trans hfn)).symm
      exact ⟨by kernel_rfl, fun j t ht => by
        rw [Tryz.params5] at ht
        have hm : t ∈ [26, 41, 3, 3] := by simpa using Array.mem_of_getElem? ht
        have hall : ([26, 41, 3, 3].all fun u => !Tryz.prog.wantsStandIn u) = true := by kernel_rfl
        exact (show Tryz.prog.wantsStandIn t = false by simpa using List.all_eq_true.1 hall t hm)⟩)
    (by kernel_rfl)
#print axioms topWaits_holds
end Go.Proofs.YtfconbblnmbnpahGreatDoor

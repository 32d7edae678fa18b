/-
  PROVED: framelaw3.TraceBack returns true, of every plan, n, events and text: any events, and any text, are read as they were; those of all rooms, and of none, are all; and a longer run begins as a shorter one.
  Conditions: the listed package variables hold when the call begins what the program's own text lays (the card ties it); none else.
-/
import Derived.Test.YtfconbblnmbnpahGreatDoorTrBack
import Derived.Test.YtfconbblnmbnpahGreatDoorJc12
import Derived.Test.YtfconbblnmbnpahGreatDoorJc6
import Derived.Test.YtfconbblnmbnpahGreatDoorTcPrint
import Derived.Test.YtfconbblnmbnpahGreatDoorKerG
import Derived.Test.YtfconbblnmbnpahGreatDoorJc5
import Derived.Test.YtfconbblnmbnpahGreatDoorJc2
import Derived.Test.YtfconbblnmbnpahGreatDoorJc4
import Derived.Test.YtfconbblnmbnpahGreatDoorCards
import Derived.Test.YtfconbblnmbnpahGreatDoorTie
import Derived.Deep.DeepHandedRow
import Derived.ChangeMaps5
import Derived.LaidHandle
import Derived.Lay
import Derived.SizedLaws
namespace Go.Proofs.YtfconbblnmbnpahGreatDoor
open Go.ChangeShapes Go.WideShapes Go.ChangeAt Go.WideElems Go.RowKit

/-- The worlds in which the law is walked. -/
structure TrbG (w : World) : Prop where
  forms : Forms w
  pow : Pow10 w
  errs : ErrS w
theorem trb_all (w w' : World) (h : TrbG w) (hb : Below w.heap.size w w') : TrbG w' := ⟨h.forms.all hb, h.pow.all hb, h.errs.all hb⟩
noncomputable def trbWorld (os : Os) : World := World.laidAll Tryz.prog os Rows.traceBackRow.laid
theorem trb_met (os : Os) (args : Array Value) : laidMetH Tryz.prog Rows.traceBackRow.laid ((trbWorld os).forCall (fun _ _ => 0) ⟨#[], args, []⟩).memory := by
  rw [MakeChecks.laidMetH_plain _ _ _ (by kernel_rfl)]
  exact laidMet_laidAll _ (by kernel_rfl) (by kernel_rfl)
theorem trb_facts {W : World} (h : laidMetH Tryz.prog Rows.traceBackRow.laid W) : TrbG W := by
  rw [MakeChecks.laidMetH_plain _ _ _ (by kernel_rfl)] at h
  have h1 := laidMet.tail h
  have h2 := laidMet.tail h1
  have h3 := laidMet.tail h2
  have h4 := laidMet.tail h3
  have h5 := laidMet.tail h4
  have h6 := laidMet.tail h5
  exact ⟨forms_of_head h6, pow_of_head h2, errS_of_head h5⟩

set_option maxRecDepth 100000 in
theorem trb_lifted (os : Os) (started : os.Started) (H : Type) (enc : TypeId × Value → H) :
    ReturnsInHanded {} Tryz.checked os 4 .any (fun w args => (Rows.traceBackSpec.pre enc Tryz.prog Tryz.f4 [] false w args ∧ laidMetH Tryz.prog Rows.traceBackRow.laid w) ∧ sizedMet enc Tryz.prog Tryz.f4 (OpenSpec.ofChange Rows.traceBackSpec) false w args)
      (Rows.traceBackSpec.post enc Tryz.prog Tryz.f4 false true false false) := by
  refine returnsInHanded_of_change_and (C := Tryz.checked) (X := fun w _ => laidMetH Tryz.prog Rows.traceBackRow.laid w) (fun _ _ _ hh h => h.of_heap hh) own started (by kernel_rfl) Tryz.func4
    (ChangeSpec.witness_shaped (enc := enc) (C := Tryz.checked) (os := os) (X := fun w _ => laidMetH Tryz.prog Rows.traceBackRow.laid w) false (trbWorld os) #[.agg #[.slice none 0 0, .int .i64 0, .slice none 0 0, .slice none 0 0], .int .i64 0, .slice none 0 0, .string ⟨#[]⟩] 8 (World.laidAll_os _ _ _) (World.shaped_of_ZipB (by kernel_rfl) (by kernel_rfl)) (by kernel_rfl) (by kernel_rfl) (by kernel_rfl) (trb_met os _)) ?_
  intro W base args ds gs before hval0 hW _ hwt hL _
  have hval : ∀ (j : Nat) t v, Tryz.f4.params[j]? = some t → args[j]? = some v → Value.okWide Tryz.prog W .any base t v := hval0
  have hW' := hW
  obtain ⟨p, q, hA0, hV, rfl, hfz, hnd⟩ := hW
  have hA : DataW.TrodAll enc Tryz.prog W 0 (fun _ => true) true Tryz.f4.params.toList args.toList ds p := hA0
  rw [Tryz.params4] at hA hval
  obtain ⟨v0, v1, v2, v3, d0, d1, d2, d3, p0, p1, p2, p3, rfl, rfl, h0, h1, h2, h3⟩ := trodAll_four hA
  obtain ⟨rfl, rfl⟩ := trodVars_none hV
  obtain ⟨vc, vs, vw, pd, rfl, hpl⟩ := open_plan (hval 0 26 v0 rfl rfl) h0
  obtain ⟨n1, rfl⟩ := okWide_int Tryz.underlying3 (hval 1 3 v1 rfl rfl)
  obtain ⟨l2, hl2⟩ := open_evs (hval 2 27 v2 rfl rfl) h2
  obtain ⟨t3, rfl, rfl, rfl, _⟩ := Go.ChangeMaps.open_string Tryz.underlying9 (hval 3 9 v3 rfl rfl) h3
  have ht3 : t3.size ≤ 140737488355328 := by
    have a0 : (Tryz.f4.params.toList ++ Rows.traceBackSpec.plain.varTypes Tryz.prog)[3]? = some 9 := by rw [Tryz.params4]; rfl
    have a1 := sized_string hwt (j := 3) a0 rfl
    have a2 := reachBytes_lt
    have a3 : t3.data.toList.length = t3.size := by simp
    omega
  refine (trback_of (G := TrbG) trb_all (trc_run (gker (G := TrbG) (fun _ h => h.forms) trb_all)) (trc_of _) (trc_counts _) (trc_print (fun _ h => h.pow)) (trc_parse (fun _ h => ⟨⟨h.forms, h.pow⟩, h.errs⟩)) pd vc vs vw n1 l2 v2 t3 W (trb_facts hL) hpl hl2 ht3).mono fun e W' ⟨he, hb⟩ => ?_
  subst he
  exact ⟨_, rfl, law_post (by kernel_rfl) (by kernel_rfl) rfl hW' rfl hb⟩

theorem traceBack_said : Rows.TraceBackSaid :=
  OpenClaim.holds_of_wide 4 Tryz.f4 rfl rfl rfl rfl rfl rfl rfl ⟨rfl, rfl, rfl, rfl, rfl⟩ rfl rfl rfl rfl rfl (by kernel_rfl) Tryz.func4 (by kernel_rfl)
    (of_decide_eq_true (by kernel_rfl)) (by unfold Func.isWrapper; first | (rw [if_pos (by decide +kernel)]; kernel_rfl) | (rw [if_neg (by decide +kernel)]; exact ⟨rfl, rfl⟩))
    (fun os started H enc _ => trb_lifted os started H enc)

theorem traceBack_holds : Rows.TraceBackCardSaid :=
  Claim7.holds_tied_plain_at .later [] _ true _ true
    traceBack_said (fun _ h => by cases h) (by kernel_rfl) (fun _ h => by cases h) traceBack_row_tie rfl ⟨rfl, rfl⟩ (by kernel_rfl) rfl
    (fun f fn hf hfn => by
      obtain rfl : f = 4 := Option.some.inj ((show Tryz.prog.funcNamed "framekeep/framelaw3.TraceBack" = some 4 by kernel_rfl).symm.trans hf) |>.symm
      obtain rfl : fn = Tryz.f4 := (Option.some.inj (Tryz.func4.symm.trans hfn)).symm
      exact ⟨by kernel_rfl, fun j t ht => by
        rw [Tryz.params4] at ht
        have hm : t ∈ [26, 3, 27, 9] := by simpa using Array.mem_of_getElem? ht
        have hall : ([26, 3, 27, 9].all fun u => !Tryz.prog.wantsStandIn u) = true := by kernel_rfl
        exact (show Tryz.prog.wantsStandIn t = false by simpa using List.all_eq_true.1 hall t hm)⟩)
    (by kernel_rfl)
#print axioms traceBack_holds
end Go.Proofs.YtfconbblnmbnpahGreatDoor

/-
  PROVED: framelaw2.TablesWhole returns true, of every plan, lists of spans and steps: within a frame one table counts, the one that was asked last by its beginning; without asking all goes as in a kernel with the first.
  Conditions: the listed package variable holds when the call begins what the program's own text lays (the card ties it); none else.
-/
import Derived.Test.YtfconbblnmbnpafDoorJa12
import Derived.Test.YtfconbblnmbnpafDoorJa8
import Derived.Test.YtfconbblnmbnpafDoorJa2
import Derived.Test.YtfconbblnmbnpafDoorJa3
import Derived.Test.YtfconbblnmbnpafDoorCards
import Derived.Test.YtfconbblnmbnpafDoorTie
namespace Go.Proofs.YtfconbblnmbnpafDoor
open Go.ChangeShapes Go.WideShapes Go.ChangeAt Go.WideElems Go.RowKit

theorem tw_met (os : Os) (args : Array Value) : laidMetH Tryd.prog Rows.tablesWholeRow.laid ((World.doorLaid Tryd.prog 400 os).forCall (fun _ _ => 0) ⟨#[], args, []⟩).memory :=
  laidMetH_of_parts3 (fuel := 8) (laidMet_of_run' 8 (by kernel_rfl) (by kernel_rfl)) (by kernel_rfl) (by kernel_rfl)

theorem tw_forms {W : World} (h : laidMetH Tryd.prog Rows.tablesWholeRow.laid W) : Forms W := by
  rw [MakeChecks.laidMetH_plain _ _ _ (by kernel_rfl)] at h
  exact forms_of_head h

set_option maxRecDepth 100000 in
theorem tw_lifted (os : Os) (started : os.Started) (H : Type) (enc : TypeId × Value → H) :
    ReturnsInHanded {} Tryd.checked os 6 .any (fun w args => (Rows.tablesWholeSpec.pre enc Tryd.prog Tryd.f6 [] false w args ∧ laidMetH Tryd.prog Rows.tablesWholeRow.laid w) ∧ sizedMet enc Tryd.prog Tryd.f6 (OpenSpec.ofChange Rows.tablesWholeSpec) false w args)
      (Rows.tablesWholeSpec.post enc Tryd.prog Tryd.f6 false true false false) := by
  refine returnsInHanded_of_change_and (C := Tryd.checked) (X := fun w _ => laidMetH Tryd.prog Rows.tablesWholeRow.laid w) (fun _ _ _ hh h => h.of_heap hh) own started (by kernel_rfl) Tryd.func6
    (ChangeSpec.witness_shaped (enc := enc) (C := Tryd.checked) (os := os) (X := fun w _ => laidMetH Tryd.prog Rows.tablesWholeRow.laid w) false (World.doorLaid Tryd.prog 400 os) #[.agg #[.slice none 0 0, .int .i64 0, .slice none 0 0, .slice none 0 0], .slice none 0 0, .slice none 0 0] 8 rfl (World.shaped_of_RefB (by kernel_rfl) (by kernel_rfl)) (by kernel_rfl) (by kernel_rfl) (by kernel_rfl) (tw_met os _)) ?_
  intro W base args ds gs before hval0 hW _ _ hL _
  have hval : ∀ (j : Nat) t v, Tryd.f6.params[j]? = some t → args[j]? = some v → Value.okWide Tryd.prog W .any base t v := hval0
  have hW' := hW
  obtain ⟨p, q, hA0, hV, rfl, hfz, hnd⟩ := hW
  have hA : DataW.TrodAll enc Tryd.prog W 0 (fun _ => true) true Tryd.f6.params.toList args.toList ds p := hA0
  rw [Tryd.params6] at hA hval
  obtain ⟨v0, v1, v2, d0, d1, d2, p0, p1, p2, rfl, rfl, rfl, h0, h1, h2⟩ := trodAll_three hA
  obtain ⟨rfl, rfl⟩ := trodVars_none hV
  obtain ⟨vc, vs, vw, pd, rfl, hpl⟩ := open_plan (hval 0 26 v0 rfl rfl) h0
  obtain ⟨ls, hspl⟩ := open_spl (hval 1 72 v1 rfl rfl) h1
  obtain ⟨ll, hst⟩ := open_stp (hval 2 43 v2 rfl rfl) h2
  refine (twhole_of (gtab (G := Forms) (fun _ h => h) (fun _ _ h hb => h.all hb)) (gker (G := Forms) (fun _ h => h) (fun _ _ h hb => h.all hb)) pd vc vs vw v1 v2 ls ll W (tw_forms hL) hpl hspl hst).mono fun e W' ⟨he, hb⟩ => ?_
  subst he
  exact ⟨_, rfl, law_post (by kernel_rfl) (by kernel_rfl) rfl hW' rfl hb⟩

theorem tablesWhole_said : Rows.TablesWholeSaid :=
  OpenClaim.holds_of_wide 6 Tryd.f6 rfl rfl rfl rfl rfl rfl rfl ⟨rfl, rfl, rfl, rfl, rfl⟩ rfl rfl rfl rfl rfl (by kernel_rfl) Tryd.func6 (by kernel_rfl)
    (of_decide_eq_true (by kernel_rfl)) (by unfold Func.isWrapper; first | (rw [if_pos (by decide +kernel)]; kernel_rfl) | (rw [if_neg (by decide +kernel)]; exact ⟨rfl, rfl⟩))
    (fun os started H enc _ => tw_lifted os started H enc)

theorem tablesWhole_holds : Rows.TablesWholeCardSaid :=
  Claim7.holds_tied_plain_at .later [] _ true _ true
    tablesWhole_said (fun _ h => by cases h) (by kernel_rfl) (fun _ h => by cases h) tablesWhole_row_tie rfl ⟨rfl, rfl⟩ (by kernel_rfl) rfl
    (fun f fn hf hfn => by
      obtain rfl : f = 6 := Option.some.inj ((show Tryd.prog.funcNamed "framekeep/framelaw2.TablesWhole" = some 6 by kernel_rfl).symm.trans hf) |>.symm
      obtain rfl : fn = Tryd.f6 := (Option.some.inj (Tryd.func6.symm.trans hfn)).symm
      exact ⟨by kernel_rfl, fun j t ht => by
        rw [Tryd.params6] at ht
        have hm : t ∈ [26, 72, 43] := by simpa using Array.mem_of_getElem? ht
        have hall : ([26, 72, 43].all fun u => !Tryd.prog.wantsStandIn u) = true := by kernel_rfl
        exact (show Tryd.prog.wantsStandIn t = false by simpa using List.all_eq_true.1 hall t hm)⟩)
    (by kernel_rfl)
#print axioms tablesWhole_holds
end Go.Proofs.YtfconbblnmbnpafDoor

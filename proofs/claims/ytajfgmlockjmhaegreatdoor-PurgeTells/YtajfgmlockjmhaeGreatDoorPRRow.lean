/-
  PROVED: framelaw2.PurgeTells returns true, of any two plans, n and room: any plan without those that cannot tell a room, and up to which tick a room is the same in any two.
  Conditions: the listed package variables hold when the call begins what the program's own text lays (the card ties it); none else.
-/
import Derived.Test.YtajfgmlockjmhaeGreatDoorJa4
import Derived.Test.YtajfgmlockjmhaeGreatDoorJa12
import Derived.Test.YtajfgmlockjmhaeGreatDoorJa10
import Derived.Test.YtajfgmlockjmhaeGreatDoorKerG
import Derived.Test.YtajfgmlockjmhaeGreatDoorJa5
import Derived.Test.YtajfgmlockjmhaeGreatDoorRefPlan
import Derived.Test.YtajfgmlockjmhaeGreatDoorJa2
import Derived.Test.YtajfgmlockjmhaeGreatDoorToldL
import Derived.Test.YtajfgmlockjmhaeGreatDoorJa3
import Derived.Test.YtajfgmlockjmhaeGreatDoorCards
import Derived.Test.YtajfgmlockjmhaeGreatDoorTie
import Derived.Deep.DeepHandedRow
import Derived.ChangeMaps5
import Derived.LaidHandle
import Derived.Lay
namespace Go.Proofs.YtajfgmlockjmhaeGreatDoor
open Go.ChangeShapes Go.WideShapes Go.ChangeAt Go.WideElems Go.RowKit

theorem gErrT : Tryz.prog.globalNamed "errors.errorType" = some 0 := by kernel_rfl
theorem rtT : (Tryz.prog.cutTypes.find? (·.1 == "internal/reflectlite.rtype")).map (·.2) = some 149 := by kernel_rfl
theorem oneRow : ((List.range 213).filter fun t => Tryz.prog.rowNamed t [101, 114, 114, 111, 114]) = [30] := by kernel_rfl
theorem manyT : Tryz.prog.types.size = 213 := by kernel_rfl
/-- The listed variable that is plain data. -/
def plainLaid : List (String × DataW Unit) := [("framekeep/code.forms", Rows.laid_framekeep_code_forms)]
theorem laid_parts {W : World} (h : laidMetH Tryz.prog Rows.purgeTellsRow.laid W) : laidMet Tryz.prog plainLaid W ∧ handlesMet Tryz.prog [("errors.errorType", Rows.laid_errors_errorType)] W := h
theorem errT_of_laid {W : World} (h : handlesMet Tryz.prog [("errors.errorType", Rows.laid_errors_errorType)] W) : ErrT W := by
  obtain ⟨name, u, ty, e1, e2, e3, e4, e5⟩ := h _ (List.mem_singleton.2 rfl)
  have en : name = [101, 114, 114, 111, 114] := (Option.some.inj e1).symm
  subst en
  obtain rfl := Option.some.inj (rtT.symm.trans e2)
  have hm : ty ∈ (List.range 213).filter fun t => Tryz.prog.rowNamed t [101, 114, 114, 111, 114] := List.mem_filter.2 ⟨List.mem_range.2 (by rw [← manyT]; exact e3), e4⟩
  rw [oneRow] at hm
  obtain rfl := List.mem_singleton.1 hm
  have hh : typeHandle Tryz.prog 30 = .pointer (some ⟨2, 30, none⟩) := by kernel_rfl
  rw [hh] at e5
  have := World.var?_cell gErrT e5 0
  unfold ErrT
  simpa using this
/-- The worlds in which the law is walked. -/
structure PtG (w : World) : Prop where
  forms : Forms w
  err : ErrT w
theorem pt_all (w w' : World) (h : PtG w) (hb : Below w.heap.size w w') : PtG w' := ⟨h.forms.all hb, h.err.all hb⟩
theorem pt_err (e : Int) (W : World) (h : PtG W) : Calls Tryz.prog 7 #[wErr e, .int .i64 e] W fun r w' => r = .returned (.bool true) ∧ Below W.heap.size W w' := (error_any e e W h.err).mono (by
  rintro r w' ⟨rfl, hb⟩
  exact ⟨by simp, hb⟩)
/-- The settled world, the handle's cell laid. -/
noncomputable def handleWorld (os : Os) : World :=
  let w0 := World.holding Tryz.prog os ⟨#[], #[], []⟩
  { w0 with heap := w0.heap.modify 0 fun
      | .cells _ t frozen => .cells #[.iface 149 (.agg #[.pointer (some ⟨2, 30, none⟩)])] t frozen
      | o => o }
noncomputable def tellsWorld (os : Os) : World := (handleWorld os).layVars Tryz.prog plainLaid
theorem tells_laid (os : Os) (args : Array Value) : laidMet Tryz.prog plainLaid ((tellsWorld os).forCall (fun _ _ => 0) ⟨#[], args, []⟩).memory := by
  have e1 : (plainLaid.filter fun x => (plainLaid.map (·.1)).contains x.1) = plainLaid := List.filter_eq_self.2 fun x hx => List.contains_iff_mem.2 (List.mem_map.2 ⟨x, hx, rfl⟩)
  have e2 : (plainLaid.filter fun x => !(plainLaid.map (·.1)).contains x.1) = [] := List.filter_eq_nil_iff.2 fun x hx => by rw [List.contains_iff_mem.2 (List.mem_map.2 ⟨x, hx, rfl⟩)]; simp
  have h : laidMet Tryz.prog plainLaid (tellsWorld os) := laidMet_layVars (w0 := handleWorld os) (plainLaid.map (·.1)) [] (by rw [e1]; rfl) (by rw [e1]; kernel_rfl) (by rw [e1]; kernel_rfl) (by rw [e2]; exact LaidIn.none)
  exact h.of_heap (by simp [World.memory, World.forCall, Input.heap])

theorem pr_met (os : Os) (args : Array Value) : laidMetH Tryz.prog Rows.purgeTellsRow.laid ((tellsWorld os).forCall (fun _ _ => 0) ⟨#[], args, []⟩).memory :=
  laidMetH_of_parts (show laidMet Tryz.prog plainLaid _ from tells_laid os _) (by kernel_rfl)

set_option maxRecDepth 100000 in
theorem pr_lifted (os : Os) (started : os.Started) (H : Type) (enc : TypeId × Value → H) :
    ReturnsInHanded {} Tryz.checked os 3 .any (fun w args => (Rows.purgeTellsSpec.pre enc Tryz.prog Tryz.f3 [] false w args ∧ laidMetH Tryz.prog Rows.purgeTellsRow.laid w) ∧ sizedMet enc Tryz.prog Tryz.f3 (OpenSpec.ofChange Rows.purgeTellsSpec) false w args)
      (Rows.purgeTellsSpec.post enc Tryz.prog Tryz.f3 false true false false) := by
  refine returnsInHanded_of_change_and (C := Tryz.checked) (X := fun w _ => laidMetH Tryz.prog Rows.purgeTellsRow.laid w) (fun _ _ _ hh h => h.of_heap hh) own started (by kernel_rfl) Tryz.func3
    (ChangeSpec.witness_shaped (enc := enc) (C := Tryz.checked) (os := os) (X := fun w _ => laidMetH Tryz.prog Rows.purgeTellsRow.laid w) false (tellsWorld os) #[.agg #[.slice none 0 0, .int .i64 0, .slice none 0 0, .slice none 0 0], .agg #[.slice none 0 0, .int .i64 0, .slice none 0 0, .slice none 0 0], .int .i64 0, .int .i64 0] 8 (World.layVars_os _ _ _) (World.shaped_of_ZipB (by kernel_rfl) (by kernel_rfl)) (by kernel_rfl) (by kernel_rfl) (by kernel_rfl) (pr_met os _)) ?_
  intro W base args ds gs before hval0 hW _ _ hL _
  have hval : ∀ (j : Nat) t v, Tryz.f3.params[j]? = some t → args[j]? = some v → Value.okWide Tryz.prog W .any base t v := hval0
  have hW' := hW
  obtain ⟨p, q, hA0, hV, rfl, hfz, hnd⟩ := hW
  have hA : DataW.TrodAll enc Tryz.prog W 0 (fun _ => true) true Tryz.f3.params.toList args.toList ds p := hA0
  rw [Tryz.params3] at hA hval
  obtain ⟨v0, v1, v2, v3, d0, d1, d2, d3, p0, p1, p2, p3, rfl, rfl, h0, h1, h2, h3⟩ := trodAll_four hA
  obtain ⟨rfl, rfl⟩ := trodVars_none hV
  obtain ⟨vc, vs, vw, pd, rfl, hpl⟩ := open_plan (hval 0 26 v0 rfl rfl) h0
  obtain ⟨ic, is, iw, qd, rfl, hql⟩ := open_plan (hval 1 26 v1 rfl rfl) h1
  obtain ⟨n2, rfl⟩ := okWide_int Tryz.underlying3 (hval 2 3 v2 rfl rfl)
  obtain ⟨n3, rfl⟩ := okWide_int Tryz.underlying3 (hval 3 3 v3 rfl rfl)
  obtain ⟨hL1, hL2⟩ := laid_parts hL
  refine (ptells_of pt_all (prg_purge (fun _ h => h.forms)) (prg_same (fun _ h => h.forms) pt_all (sgt_run (gker (G := PtG) (fun _ h => h.forms) pt_all))) pt_err (fun p vc vs vw W hP => refplan_any p vc vs vw W hP) (fun p vc vs vw r w0 w hp hP hb hr => rpurge_any p vc vs vw r w0 w hp hP hb hr) (fun p vc vs vw n r w hp hP hn hr => rstates_any p vc vs vw n r w hp hP hn hr) pd qd vc vs vw ic is iw n2 n3 W ⟨forms_of_head hL1, errT_of_laid hL2⟩ hpl hql).mono fun e W' ⟨he, hb⟩ => ?_
  subst he
  exact ⟨_, rfl, law_post (by kernel_rfl) (by kernel_rfl) rfl hW' rfl hb⟩

theorem purgeTells_said : Rows.PurgeTellsSaid :=
  OpenClaim.holds_of_wide 3 Tryz.f3 rfl rfl rfl rfl rfl rfl rfl ⟨rfl, rfl, rfl, rfl, rfl⟩ rfl rfl rfl rfl rfl (by kernel_rfl) Tryz.func3 (by kernel_rfl)
    (of_decide_eq_true (by kernel_rfl)) (by unfold Func.isWrapper; first | (rw [if_pos (by decide +kernel)]; kernel_rfl) | (rw [if_neg (by decide +kernel)]; exact ⟨rfl, rfl⟩))
    (fun os started H enc _ => pr_lifted os started H enc)

theorem purgeTells_holds : Rows.PurgeTellsCardSaid :=
  Claim7.holds_tied_plain_at .later [] _ true _ true
    purgeTells_said (fun _ h => by cases h) (by kernel_rfl) (fun _ h => by cases h) purgeTells_row_tie rfl ⟨rfl, rfl⟩ (by kernel_rfl) rfl
    (fun f fn hf hfn => by
      obtain rfl : f = 3 := Option.some.inj ((show Tryz.prog.funcNamed "framekeep/framelaw2.PurgeTells" = some 3 by kernel_rfl).symm.trans hf) |>.symm
      obtain rfl : fn = Tryz.f3 := (Option.some.inj (Tryz.func3.symm.trans hfn)).symm
      exact ⟨by kernel_rfl, fun j t ht => by
        rw [Tryz.params3] at ht
        have hm : t ∈ [26, 26, 3, 3] := by simpa using Array.mem_of_getElem? ht
        have hall : ([26, 26, 3, 3].all fun u => !Tryz.prog.wantsStandIn u) = true := by kernel_rfl
        exact (show Tryz.prog.wantsStandIn t = false by simpa using List.all_eq_true.1 hall t hm)⟩)
    (by kernel_rfl)
#print axioms purgeTells_holds
end Go.Proofs.YtajfgmlockjmhaeGreatDoor

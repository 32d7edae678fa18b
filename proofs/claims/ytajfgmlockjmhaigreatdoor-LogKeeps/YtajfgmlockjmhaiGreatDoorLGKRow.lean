/-
  PROVED: framelaw3.LogKeeps returns true, of every plan, steps and numbers: behind a crash there is the kernel of as many steps as are whole among the bytes that are left; what stopped did nothing.
  Conditions: the listed package variables hold when the call begins what the program's own text lays (the card ties it); none else.
-/
import Derived.Test.YtajfgmlockjmhaiGreatDoorJk13
import Derived.Test.YtajfgmlockjmhaiGreatDoorJk12
import Derived.Test.YtajfgmlockjmhaiGreatDoorJk16
import Derived.Test.YtajfgmlockjmhaiGreatDoorRefPlan
import Derived.Test.YtajfgmlockjmhaiGreatDoorJk2
import Derived.Test.YtajfgmlockjmhaiGreatDoorJk6
import Derived.Test.YtajfgmlockjmhaiGreatDoorJk4
import Derived.Test.YtajfgmlockjmhaiGreatDoorToldL
import Derived.Test.YtajfgmlockjmhaiGreatDoorWOpen
import Derived.Test.YtajfgmlockjmhaiGreatDoorCards
import Derived.Test.YtajfgmlockjmhaiGreatDoorTie
import Derived.Deep.DeepHandedRow
import Derived.ChangeMaps5
import Derived.LaidHandle
import Derived.Lay
import Derived.SizedLaws
namespace Go.Proofs.YtajfgmlockjmhaiGreatDoor
open Go.ChangeShapes Go.WideShapes Go.ChangeAt Go.WideElems Go.RowKit

/-- The worlds in which the law is walked. -/
structure LgkG (w : World) : Prop where
  forms : Forms w
  pow : Pow10 w
  errs : ErrS w
  err : ErrT w
theorem lgk_all (w w' : World) (h : LgkG w) (hb : Below w.heap.size w w') : LgkG w' := ⟨h.forms.all hb, h.pow.all hb, h.errs.all hb, h.err.all hb⟩
theorem lgk_err (e : Int) (W : World) (h : LgkG W) : Calls Tryz.prog 15 #[wErr e, .int .i64 e] W fun r w' => r = .returned (.bool true) ∧ Below W.heap.size W w' := (error_any e e W h.err).mono (by
  rintro r w' ⟨rfl, hb⟩
  exact ⟨by simp, hb⟩)
theorem lgk_err2 (e k : Int) (W : World) (h : LgkG W) : Calls Tryz.prog 15 #[wErr e, .int .i64 k] W fun r w' => r = .returned (.bool (decide (e = k))) ∧ Below W.heap.size W w' := error_any e k W h.err
theorem gErrT : Tryz.prog.globalNamed "errors.errorType" = some 0 := by kernel_rfl
theorem rtT : (Tryz.prog.cutTypes.find? (·.1 == "internal/reflectlite.rtype")).map (·.2) = some 232 := by kernel_rfl
theorem oneRow : ((List.range 314).filter fun t => Tryz.prog.rowNamed t [101, 114, 114, 111, 114]) = [32] := by kernel_rfl
theorem manyT : Tryz.prog.types.size = 314 := by kernel_rfl
/-- The listed variables that are plain data. -/
def plainLaid : List (String × DataW Unit) := [("math/bits.deBruijn32tab", Rows.laid_math_bits_deBruijn32tab), ("math/bits.deBruijn64tab", Rows.laid_math_bits_deBruijn64tab), ("internal/strconv.uint64pow10", Rows.laid_internal_strconv_uint64pow10), ("unicode/utf8.acceptRanges", Rows.laid_unicode_utf8_acceptRanges), ("strconv.ErrRange", Rows.laid_strconv_ErrRange), ("strconv.ErrSyntax", Rows.laid_strconv_ErrSyntax), ("framekeep/code.forms", Rows.laid_framekeep_code_forms), ("unicode/utf8.first", Rows.laid_unicode_utf8_first)]
theorem laid_parts {W : World} (h : laidMetH Tryz.prog Rows.logKeepsRow.laid W) : laidMet Tryz.prog plainLaid W ∧ handlesMet Tryz.prog [("errors.errorType", Rows.laid_errors_errorType)] W := h
theorem errT_of_laid {W : World} (h : handlesMet Tryz.prog [("errors.errorType", Rows.laid_errors_errorType)] W) : ErrT W := by
  obtain ⟨name, u, ty, e1, e2, e3, e4, e5⟩ := h _ (List.mem_singleton.2 rfl)
  have en : name = [101, 114, 114, 111, 114] := (Option.some.inj e1).symm
  subst en
  obtain rfl := Option.some.inj (rtT.symm.trans e2)
  have hm : ty ∈ (List.range 314).filter fun t => Tryz.prog.rowNamed t [101, 114, 114, 111, 114] := List.mem_filter.2 ⟨List.mem_range.2 (by rw [← manyT]; exact e3), e4⟩
  rw [oneRow] at hm
  obtain rfl := List.mem_singleton.1 hm
  have hh : typeHandle Tryz.prog 32 = .pointer (some ⟨10, 32, none⟩) := by kernel_rfl
  rw [hh] at e5
  have := World.var?_cell gErrT e5 0
  unfold ErrT
  simpa using this
/-- The settled world, the handle's cell laid. -/
noncomputable def handleWorld (os : Os) : World :=
  let w0 := World.holding Tryz.prog os ⟨#[], #[], []⟩
  { w0 with heap := w0.heap.modify 0 fun
      | .cells _ t frozen => .cells #[.iface 232 (.agg #[.pointer (some ⟨10, 32, none⟩)])] t frozen
      | o => o }
noncomputable def lgkWorld (os : Os) : World := (handleWorld os).layVars Tryz.prog plainLaid
theorem tells_laid (os : Os) (args : Array Value) : laidMet Tryz.prog plainLaid ((lgkWorld os).forCall (fun _ _ => 0) ⟨#[], args, []⟩).memory := by
  have e1 : (plainLaid.filter fun x => (plainLaid.map (·.1)).contains x.1) = plainLaid := List.filter_eq_self.2 fun x hx => List.contains_iff_mem.2 (List.mem_map.2 ⟨x, hx, rfl⟩)
  have e2 : (plainLaid.filter fun x => !(plainLaid.map (·.1)).contains x.1) = [] := List.filter_eq_nil_iff.2 fun x hx => by rw [List.contains_iff_mem.2 (List.mem_map.2 ⟨x, hx, rfl⟩)]; simp
  have h : laidMet Tryz.prog plainLaid (lgkWorld os) := laidMet_layVars (w0 := handleWorld os) (plainLaid.map (·.1)) [] (by rw [e1]; rfl) (by rw [e1]; kernel_rfl) (by rw [e1]; kernel_rfl) (by rw [e2]; exact LaidIn.none)
  exact h.of_heap (by simp [World.memory, World.forCall, Input.heap])
theorem lgk_met (os : Os) (args : Array Value) : laidMetH Tryz.prog Rows.logKeepsRow.laid ((lgkWorld os).forCall (fun _ _ => 0) ⟨#[], args, []⟩).memory :=
  laidMetH_of_parts (show laidMet Tryz.prog plainLaid _ from tells_laid os _) (by kernel_rfl)
theorem lgk_facts {W : World} (h : laidMetH Tryz.prog Rows.logKeepsRow.laid W) : LgkG W := by
  obtain ⟨h, hh⟩ := laid_parts h
  have h1 := laidMet.tail h
  have h2 := laidMet.tail h1
  have h3 := laidMet.tail h2
  have h4 := laidMet.tail h3
  have h5 := laidMet.tail h4
  have h6 := laidMet.tail h5
  exact ⟨forms_of_head h6, pow_of_head h2, errS_of_head h5, errT_of_laid hh⟩

set_option maxRecDepth 100000 in
theorem lgk_lifted (os : Os) (started : os.Started) (H : Type) (enc : TypeId × Value → H) :
    ReturnsInHanded {} Tryz.checked os 7 .any (fun w args => (Rows.logKeepsSpec.pre enc Tryz.prog Tryz.f7 [] false w args ∧ laidMetH Tryz.prog Rows.logKeepsRow.laid w) ∧ sizedMet enc Tryz.prog Tryz.f7 (OpenSpec.ofChange Rows.logKeepsSpec) false w args)
      (Rows.logKeepsSpec.post enc Tryz.prog Tryz.f7 false true false false) := by
  refine returnsInHanded_of_change_and (C := Tryz.checked) (X := fun w _ => laidMetH Tryz.prog Rows.logKeepsRow.laid w) (fun _ _ _ hh h => h.of_heap hh) own started (by kernel_rfl) Tryz.func7
    (ChangeSpec.witness_shaped (enc := enc) (C := Tryz.checked) (os := os) (X := fun w _ => laidMetH Tryz.prog Rows.logKeepsRow.laid w) false (lgkWorld os) #[.agg #[.slice none 0 0, .int .i64 0, .slice none 0 0, .slice none 0 0], .slice none 0 0, .slice none 0 0, .slice none 0 0, .slice none 0 0] 8 (World.layVars_os _ _ _) (World.shaped_of_ZipB (by kernel_rfl) (by kernel_rfl)) (by kernel_rfl) (by kernel_rfl) (by kernel_rfl) (lgk_met os _)) ?_
  intro W base args ds gs before hval0 hW _ _ hL _
  have hval : ∀ (j : Nat) t v, Tryz.f7.params[j]? = some t → args[j]? = some v → Value.okWide Tryz.prog W .any base t v := hval0
  have hW' := hW
  obtain ⟨p, q, hA0, hV, rfl, hfz, hnd⟩ := hW
  have hA : DataW.TrodAll enc Tryz.prog W 0 (fun _ => true) true Tryz.f7.params.toList args.toList ds p := hA0
  rw [Tryz.params7] at hA hval
  obtain ⟨v0, v1, v2, v3, v4, d0, d1, d2, d3, d4, p0, p1, p2, p3, p4, rfl, rfl, h0, h1, h2, h3, h4⟩ := trodAll_five hA
  obtain ⟨rfl, rfl⟩ := trodVars_none hV
  obtain ⟨vc, vs, vw, pd, rfl, hpl⟩ := open_plan (hval 0 26 v0 rfl rfl) h0
  obtain ⟨l1, hl1⟩ := open_sts (hval 1 57 v1 rfl rfl) h1
  obtain ⟨l2, hl2⟩ := open_stp (hval 2 58 v2 rfl rfl) h2
  obtain ⟨l3, hl3⟩ := open_stp (hval 3 58 v3 rfl rfl) h3
  obtain ⟨l4, hl4⟩ := open_stp (hval 4 58 v4 rfl rfl) h4
  refine (lkeeps_of (glogD (gker (G := LgkG) (fun _ h => h.forms) lgk_all) (gker_poke (fun _ h => h.forms) lgk_all) (gker_time (fun _ h => h.forms) lgk_all) (fun _ h => h.pow)) (glogD_poke (gker_chk (fun _ h => h.forms) lgk_all)) glogD_sync glogD_fail (glogD_crash (fun _ h => ⟨⟨h.forms, h.pow⟩, h.errs⟩)) glogD_state glogD_time glogD_bytes glogD_safe lgk_err2 (fun p vc vs vw W hP => refplan_any p vc vs vw W hP) pd vc vs vw v1 v2 v3 v4 l1 l2 l3 l4 W (lgk_facts hL) hpl hl1 hl2 hl3 hl4).mono fun e W' ⟨he, hb⟩ => ?_
  subst he
  exact ⟨_, rfl, law_post (by kernel_rfl) (by kernel_rfl) rfl hW' rfl hb⟩

theorem logKeeps_said : Rows.LogKeepsSaid :=
  OpenClaim.holds_of_wide 7 Tryz.f7 rfl rfl rfl rfl rfl rfl rfl ⟨rfl, rfl, rfl, rfl, rfl⟩ rfl rfl rfl rfl rfl (by kernel_rfl) Tryz.func7 (by kernel_rfl)
    (of_decide_eq_true (by kernel_rfl)) (by unfold Func.isWrapper; first | (rw [if_pos (by decide +kernel)]; kernel_rfl) | (rw [if_neg (by decide +kernel)]; exact ⟨rfl, rfl⟩))
    (fun os started H enc _ => lgk_lifted os started H enc)

theorem logKeeps_holds : Rows.LogKeepsCardSaid :=
  Claim7.holds_tied_plain_at .later [] _ true _ true
    logKeeps_said (fun _ h => by cases h) (by kernel_rfl) (fun _ h => by cases h) logKeeps_row_tie rfl ⟨rfl, rfl⟩ (by kernel_rfl) rfl
    (fun f fn hf hfn => by
      obtain rfl : f = 7 := Option.some.inj ((show Tryz.prog.funcNamed "framekeep/framelaw3.LogKeeps" = some 7 by kernel_rfl).symm.trans hf) |>.symm
      obtain rfl : fn = Tryz.f7 := (Option.some.inj (Tryz.func7.symm.trans hfn)).symm
      exact ⟨by kernel_rfl, fun j t ht => by
        rw [Tryz.params7] at ht
        have hm : t ∈ [26, 57, 58, 58, 58] := by simpa using Array.mem_of_getElem? ht
        have hall : ([26, 57, 58, 58, 58].all fun u => !Tryz.prog.wantsStandIn u) = true := by kernel_rfl
        exact (show Tryz.prog.wantsStandIn t = false by simpa using List.all_eq_true.1 hall t hm)⟩)
    (by kernel_rfl)
#print axioms logKeeps_holds
end Go.Proofs.YtajfgmlockjmhaiGreatDoor

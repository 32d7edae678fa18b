/-
  PROVED: framelaw3.TraceTells returns true, of every plan, n, events, room and text that are together of bulk at most 1048576: what is done in so many ticks of any plan; of any events those of a room, how many of each kind; as text, any text as events.
  Conditions: the listed package variables hold when the call begins what the program's own text lays (the card ties it); the bound, as the row says.
-/
import Derived.Test.YtfconbblnmbnpahGreatDoorTrTells
import Derived.Test.YtfconbblnmbnpahGreatDoorJb3
import Derived.Test.YtfconbblnmbnpahGreatDoorJb7
import Derived.Test.YtfconbblnmbnpahGreatDoorTcPrint
import Derived.Test.YtfconbblnmbnpahGreatDoorKerG
import Derived.Test.YtfconbblnmbnpahGreatDoorRefPlan
import Derived.Test.YtfconbblnmbnpahGreatDoorJb5
import Derived.Test.YtfconbblnmbnpahGreatDoorToldL
import Derived.Test.YtfconbblnmbnpahGreatDoorJb2
import Derived.Test.YtfconbblnmbnpahGreatDoorCards
import Derived.Test.YtfconbblnmbnpahGreatDoorTie
import Derived.Deep.DeepHandedRow
import Derived.ChangeMaps5
import Derived.LaidHandle
import Derived.Lay
import Derived.SizedLaws
namespace Go.Proofs.YtfconbblnmbnpahGreatDoor
open Go.ChangeShapes Go.WideShapes Go.ChangeAt Go.WideElems Go.RowKit

/-- The worlds in which the law is walked. -/
structure TrtG (w : World) : Prop where
  forms : Forms w
  pow : Pow10 w
  errs : ErrS w
  err : ErrT w
theorem trt_all (w w' : World) (h : TrtG w) (hb : Below w.heap.size w w') : TrtG w' := ⟨h.forms.all hb, h.pow.all hb, h.errs.all hb, h.err.all hb⟩
theorem trt_err (e : Int) (W : World) (h : TrtG W) : Calls Tryz.prog 11 #[wErr e, .int .i64 e] W fun r w' => r = .returned (.bool true) ∧ Below W.heap.size W w' := (error_any e e W h.err).mono (by
  rintro r w' ⟨rfl, hb⟩
  exact ⟨by simp, hb⟩)
theorem gErrT : Tryz.prog.globalNamed "errors.errorType" = some 0 := by kernel_rfl
theorem rtT : (Tryz.prog.cutTypes.find? (·.1 == "internal/reflectlite.rtype")).map (·.2) = some 246 := by kernel_rfl
theorem oneRow : ((List.range 344).filter fun t => Tryz.prog.rowNamed t [101, 114, 114, 111, 114]) = [35] := by kernel_rfl
theorem manyT : Tryz.prog.types.size = 344 := by kernel_rfl
/-- The listed variables that are plain data. -/
def plainLaid : List (String × DataW Unit) := [("math/bits.deBruijn32tab", Rows.laid_math_bits_deBruijn32tab), ("math/bits.deBruijn64tab", Rows.laid_math_bits_deBruijn64tab), ("internal/strconv.uint64pow10", Rows.laid_internal_strconv_uint64pow10), ("unicode/utf8.acceptRanges", Rows.laid_unicode_utf8_acceptRanges), ("strconv.ErrRange", Rows.laid_strconv_ErrRange), ("strconv.ErrSyntax", Rows.laid_strconv_ErrSyntax), ("framekeep/code.forms", Rows.laid_framekeep_code_forms), ("unicode/utf8.first", Rows.laid_unicode_utf8_first)]
theorem laid_parts {W : World} (h : laidMetH Tryz.prog Rows.traceTellsUptoRow.laid W) : laidMet Tryz.prog plainLaid W ∧ handlesMet Tryz.prog [("errors.errorType", Rows.laid_errors_errorType)] W := h
theorem errT_of_laid {W : World} (h : handlesMet Tryz.prog [("errors.errorType", Rows.laid_errors_errorType)] W) : ErrT W := by
  obtain ⟨name, u, ty, e1, e2, e3, e4, e5⟩ := h _ (List.mem_singleton.2 rfl)
  have en : name = [101, 114, 114, 111, 114] := (Option.some.inj e1).symm
  subst en
  obtain rfl := Option.some.inj (rtT.symm.trans e2)
  have hm : ty ∈ (List.range 344).filter fun t => Tryz.prog.rowNamed t [101, 114, 114, 111, 114] := List.mem_filter.2 ⟨List.mem_range.2 (by rw [← manyT]; exact e3), e4⟩
  rw [oneRow] at hm
  obtain rfl := List.mem_singleton.1 hm
  have hh : typeHandle Tryz.prog 35 = .pointer (some ⟨10, 35, none⟩) := by kernel_rfl
  rw [hh] at e5
  have := World.var?_cell gErrT e5 0
  unfold ErrT
  simpa using this
/-- The settled world, the handle's cell laid. -/
noncomputable def handleWorld (os : Os) : World :=
  let w0 := World.holding Tryz.prog os ⟨#[], #[], []⟩
  { w0 with heap := w0.heap.modify 0 fun
      | .cells _ t frozen => .cells #[.iface 246 (.agg #[.pointer (some ⟨10, 35, none⟩)])] t frozen
      | o => o }
noncomputable def trtWorld (os : Os) : World := (handleWorld os).layVars Tryz.prog plainLaid
theorem tells_laid (os : Os) (args : Array Value) : laidMet Tryz.prog plainLaid ((trtWorld os).forCall (fun _ _ => 0) ⟨#[], args, []⟩).memory := by
  have e1 : (plainLaid.filter fun x => (plainLaid.map (·.1)).contains x.1) = plainLaid := List.filter_eq_self.2 fun x hx => List.contains_iff_mem.2 (List.mem_map.2 ⟨x, hx, rfl⟩)
  have e2 : (plainLaid.filter fun x => !(plainLaid.map (·.1)).contains x.1) = [] := List.filter_eq_nil_iff.2 fun x hx => by rw [List.contains_iff_mem.2 (List.mem_map.2 ⟨x, hx, rfl⟩)]; simp
  have h : laidMet Tryz.prog plainLaid (trtWorld os) := laidMet_layVars (w0 := handleWorld os) (plainLaid.map (·.1)) [] (by rw [e1]; rfl) (by rw [e1]; kernel_rfl) (by rw [e1]; kernel_rfl) (by rw [e2]; exact LaidIn.none)
  exact h.of_heap (by simp [World.memory, World.forCall, Input.heap])
theorem trt_met (os : Os) (args : Array Value) : laidMetH Tryz.prog Rows.traceTellsUptoRow.laid ((trtWorld os).forCall (fun _ _ => 0) ⟨#[], args, []⟩).memory :=
  laidMetH_of_parts (show laidMet Tryz.prog plainLaid _ from tells_laid os _) (by kernel_rfl)
theorem trt_facts {W : World} (h : laidMetH Tryz.prog Rows.traceTellsUptoRow.laid W) : TrtG W := by
  obtain ⟨h, hh⟩ := laid_parts h
  have h1 := laidMet.tail h
  have h2 := laidMet.tail h1
  have h3 := laidMet.tail h2
  have h4 := laidMet.tail h3
  have h5 := laidMet.tail h4
  have h6 := laidMet.tail h5
  exact ⟨forms_of_head h6, pow_of_head h2, errS_of_head h5, errT_of_laid hh⟩

def trtArgs : Array Value := #[.agg #[.slice none 0 0, .int .i64 0, .slice none 0 0, .slice none 0 0], .int .i64 0, .slice none 0 0, .int .i64 0, .string ⟨#[]⟩]
set_option maxRecDepth 100000 in
theorem trt_witness (os : Os) (H : Type) (enc : TypeId × Value → H) : ∃ (w : World) (tape : Tape) (i : Input), w.os = os ∧ (w.forCall tape i).Shaped Tryz.prog ∧ i.vars = [] ∧ Input.okWide Tryz.prog (w.forCall tape i) .any w.heap.size 3 i ∧
      (Rows.OpenSpec.upto Rows.traceTellsSpec).preRow enc Tryz.prog Tryz.f3 Rows.traceTellsUptoRow.domain false Rows.traceTellsUptoRow.laid (w.forCall tape i).memory i.args ∧ ({} : Assume).holds Tryz.prog (lone (Frame.enter Tryz.prog 3 i.args .normal) [] (w.forCall tape i)) := by
  have hok : Input.okWideB Tryz.prog ((trtWorld os).forCall (fun _ _ => 0) ⟨#[], trtArgs, []⟩) 3 ⟨#[], trtArgs, []⟩ = true := by kernel_rfl
  have hx : ∃ places, DataW.whole enc Tryz.prog ((trtWorld os).forCall (fun _ _ => 0) ⟨#[], trtArgs, []⟩).memory Tryz.f3.params.toList Rows.traceTellsSpec.vars false trtArgs.toList 8 = some ([.agg [.nil, .lit (.int .i64 0), .nil, .nil], .lit (.int .i64 0), .nil, .lit (.int .i64 0), .lit (.string [])], [], places) := ⟨[], by kernel_rfl⟩
  obtain ⟨places, hx⟩ := hx
  refine ⟨trtWorld os, fun _ _ => 0, ⟨#[], trtArgs, []⟩, World.layVars_os _ _ _, World.shaped_of_ZipB (by kernel_rfl) (by kernel_rfl), (Input.okWide_of_okWideB (base := 0) hok).1, (Input.okWide_of_okWideB hok).2, ?_, ?_⟩
  · exact OpenSpec.preRow_of_cond 8 hx (by kernel_rfl) (fun k hk => by cases hk; kernel_rfl) (by kernel_rfl) (trt_met os _)
  · simp only [Assume.holds]
    exact ⟨by simp, by simp, fun h => by simp at h, by simp, by simp⟩
set_option maxRecDepth 100000 in
theorem trt_lifted (os : Os) (started : os.Started) (H : Type) (enc : TypeId × Value → H) (F : Stop.Interp) :
    ReturnsInHanded {} Tryz.checked os 3 .any ((Rows.OpenSpec.upto Rows.traceTellsSpec).preRow enc Tryz.prog Tryz.f3 Rows.traceTellsUptoRow.domain false Rows.traceTellsUptoRow.laid) (((Rows.OpenSpec.upto Rows.traceTellsSpec).at F).post enc Tryz.prog Tryz.f3 false true false false) := by
  refine returnsInHanded_of_row (C := Tryz.checked) (s := Rows.OpenSpec.upto Rows.traceTellsSpec) own started (by kernel_rfl) Tryz.func3 (trt_witness os H enc) ?_
  intro W base args ds gs before hval0 hW _ hcond _ hL _ _
  have hval : ∀ (j : Nat) t v, Tryz.f3.params[j]? = some t → args[j]? = some v → Value.okWide Tryz.prog W .any base t v := hval0
  have hW' := hW
  obtain ⟨p, q, hA0, hV, rfl, hfz, hnd⟩ := hW
  have hA : DataW.TrodAll enc Tryz.prog W 0 (fun _ => true) true Tryz.f3.params.toList args.toList ds p := hA0
  rw [Tryz.params3] at hA hval
  obtain ⟨v0, v1, v2, v3, v4, d0, d1, d2, d3, d4, p0, p1, p2, p3, p4, rfl, rfl, h0, h1, h2, h3, h4⟩ := trodAll_five hA
  obtain ⟨rfl, rfl⟩ := trodVars_none hV
  have hbound : Rows.uptoBulkAll ([d0, d1, d2, d3, d4] ++ []) ≤ 1048576 := by
    have := hcond _ rfl
    simpa [Rows.uptoSmall] using this
  obtain ⟨vc, vs, vw, pd, rfl, hpl⟩ := open_plan (hval 0 26 v0 rfl rfl) h0
  obtain ⟨n1, rfl⟩ := okWide_int Tryz.underlying3 (hval 1 3 v1 rfl rfl)
  obtain ⟨l2, hl2⟩ := open_evs (hval 2 27 v2 rfl rfl) h2
  obtain ⟨n3, rfl⟩ := okWide_int Tryz.underlying3 (hval 3 3 v3 rfl rfl)
  obtain ⟨t4, rfl, rfl, rfl, _⟩ := Go.ChangeMaps.open_string Tryz.underlying9 (hval 4 9 v4 rfl rfl) h4
  have ht4 : t4.size ≤ 1099511627776 := by
    simp [Rows.uptoBulkAll, Rows.uptoBulk] at hbound
    have : t4.size = t4.data.size := rfl
    omega
  refine (trtells_of (G := TrtG) trt_all (trc_run (gker (G := TrtG) (fun _ h => h.forms) trt_all)) (trc_of _) (trc_counts _) (trc_print (fun _ h => h.pow)) (trc_parse (fun _ h => ⟨⟨h.forms, h.pow⟩, h.errs⟩)) trt_err (fun p vc vs vw W hP => refplan_any p vc vs vw W hP) pd vc vs vw n1 l2 v2 n3 t4 W (trt_facts hL) hpl hl2 ht4).mono fun e W' ⟨he, hb⟩ => ?_
  subst he
  exact ⟨_, rfl, law_post (s := Rows.traceTellsSpec) (by kernel_rfl) (by kernel_rfl) rfl hW' rfl hb⟩

theorem traceTells_saidUpto : Rows.TraceTellsUptoSaid :=
  OpenClaim.holds_of_cond 3 Tryz.f3 rfl rfl rfl rfl rfl rfl rfl ⟨rfl, rfl, rfl, rfl, rfl⟩ rfl rfl rfl rfl rfl (by kernel_rfl) Tryz.func3 (by kernel_rfl)
    (of_decide_eq_true (by kernel_rfl)) (by unfold Func.isWrapper; first | (rw [if_pos (by decide +kernel)]; kernel_rfl) | (rw [if_neg (by decide +kernel)]; exact ⟨rfl, rfl⟩))
    (fun os started H enc _ F => by rw [OpenClaim.pre_eq_preRow]; exact trt_lifted os started H enc F)

theorem traceTellsUpto_holds : Rows.TraceTellsUptoCardSaid :=
  Claim7.holds_tied_plain_at .later [] _ true _ true
    traceTells_saidUpto (fun _ h => by cases h) (by kernel_rfl) (fun _ h => by cases h) traceTellsUpto_row_tie rfl ⟨rfl, rfl⟩ (by kernel_rfl) rfl
    (fun f fn hf hfn => by
      obtain rfl : f = 3 := Option.some.inj ((show Tryz.prog.funcNamed "framekeep/framelaw3.TraceTells" = some 3 by kernel_rfl).symm.trans hf) |>.symm
      obtain rfl : fn = Tryz.f3 := (Option.some.inj (Tryz.func3.symm.trans hfn)).symm
      exact ⟨by kernel_rfl, fun j t ht => by
        rw [Tryz.params3] at ht
        have hm : t ∈ [26, 3, 27, 3, 9] := by simpa using Array.mem_of_getElem? ht
        have hall : ([26, 3, 27, 3, 9].all fun u => !Tryz.prog.wantsStandIn u) = true := by kernel_rfl
        exact (show Tryz.prog.wantsStandIn t = false by simpa using List.all_eq_true.1 hall t hm)⟩)
    (by kernel_rfl)
#print axioms traceTellsUpto_holds
end Go.Proofs.YtfconbblnmbnpahGreatDoor

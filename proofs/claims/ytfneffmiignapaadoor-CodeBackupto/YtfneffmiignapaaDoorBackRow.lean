/-
  PROVED: framelaw1.CodeBack returns true, of every code, every text and every op that are together of bulk at most 1048576.
  Conditions: the listed package variables hold when the call begins what the program's own text lays (the card ties it); the bound, as the row says.
-/
import Derived.Test.YtfneffmiignapaaDoorBack2
import Derived.Test.YtfneffmiignapaaDoorBack3
import Derived.Test.YtfneffmiignapaaDoorLaid2
import Derived.Test.YtfneffmiignapaaDoorLaw
import Derived.Test.YtfneffmiignapaaDoorOpen
import Derived.Test.YtfneffmiignapaaDoorCards
import Derived.Test.YtfneffmiignapaaDoorTie
import Derived.Deep.DeepHandedRow
import Derived.ChangeMaps5
namespace Go.Proofs.YtfneffmiignapaaDoor
open Go.ChangeShapes Go.WideShapes Go.ChangeAt Go.WideElems Go.RowKit

theorem back_walk (v : Value) (l : List O3) (t : ByteArray) (o : O3) (w : World) (ht : Tabs2 w) (ho : Ops w v l) (htl : t.size ≤ 1099511627776) :
    Calls Tryd.prog 3 #[v, .string t, .agg #[.int .i64 o.1, .int .i64 o.2.1, .int .i64 o.2.2]] w fun e w' => e = .returned (.bool true) ∧ Below w.heap.size w w' := by
  by_cases hp : (parseB t.data.toList).2 = 0
  · by_cases hc : (chk l).2 = 0
    · by_cases hq : (chk [o]).2 = 0
      · by_cases hll : l.length < 20
        · exact back_good_ogood v l t o w ht ho htl hp hc hq hll
        · exact back_good_olong v l t o w ht ho htl hp hc hq (by omega)
      · exact back_good_obad v l t o w ht ho htl hp hc hq
    · exact back_good_lbad v l t o w ht ho htl hp hc
  · by_cases hc : (chk l).2 = 0
    · by_cases hq : (chk [o]).2 = 0
      · by_cases hll : l.length < 20
        · exact back_bad_ogood v l t o w ht ho htl hp hc hq hll
        · exact back_bad_olong v l t o w ht ho htl hp hc hq (by omega)
      · exact back_bad_obad v l t o w ht ho htl hp hc hq
    · exact back_bad_lbad v l t o w ht ho htl hp hc

theorem back_tabs {W : World} (h : laidMetH Tryd.prog Rows.codeBackUptoRow.laid W) : Tabs2 W := by
  rw [MakeChecks.laidMetH_plain _ _ _ (by kernel_rfl)] at h
  have h2 := laidMet.tail (laidMet.tail h)
  have h5 := laidMet.tail (laidMet.tail (laidMet.tail h2))
  exact ⟨⟨forms_of_head (laidMet.tail h5), pow_of_head h2⟩, errS_of_head h5⟩

def backArgs : Array Value := #[.slice none 0 0, .string ⟨#[]⟩, .agg #[.int .i64 0, .int .i64 0, .int .i64 0]]
noncomputable def backWorld (os : Os) : World := World.laidAll Tryd.prog os Rows.codeBackUptoRow.laid

set_option maxRecDepth 100000 in
theorem back_witness (os : Os) (H : Type) (enc : TypeId × Value → H) : ∃ (w : World) (tape : Tape) (i : Input), w.os = os ∧ (w.forCall tape i).Shaped Tryd.prog ∧ i.vars = [] ∧ Input.okWide Tryd.prog (w.forCall tape i) .any w.heap.size 3 i ∧
      (Rows.OpenSpec.upto Rows.codeBackSpec).preRow enc Tryd.prog Tryd.f3 Rows.codeBackUptoRow.domain false Rows.codeBackUptoRow.laid (w.forCall tape i).memory i.args ∧ ({} : Assume).holds Tryd.prog (lone (Frame.enter Tryd.prog 3 i.args .normal) [] (w.forCall tape i)) := by
  have hok : Input.okWideB Tryd.prog ((backWorld os).forCall (fun _ _ => 0) ⟨#[], backArgs, []⟩) 3 ⟨#[], backArgs, []⟩ = true := by kernel_rfl
  have hx : ∃ places, DataW.whole enc Tryd.prog ((backWorld os).forCall (fun _ _ => 0) ⟨#[], backArgs, []⟩).memory Tryd.f3.params.toList Rows.codeBackSpec.vars false backArgs.toList 8 = some ([.nil, .lit (.string []), .agg [.lit (.int .i64 0), .lit (.int .i64 0), .lit (.int .i64 0)]], [], places) := ⟨[], by kernel_rfl⟩
  obtain ⟨places, hx⟩ := hx
  refine ⟨backWorld os, fun _ _ => 0, ⟨#[], backArgs, []⟩, World.laidAll_os _ _ _, World.shaped_of_ZipB (by kernel_rfl) (by kernel_rfl), (Input.okWide_of_okWideB (base := 0) hok).1, (Input.okWide_of_okWideB hok).2, ?_, ?_⟩
  · refine OpenSpec.preRow_of_cond 8 hx (by kernel_rfl) (fun k hk => by cases hk; kernel_rfl) (by kernel_rfl) ?_
    rw [MakeChecks.laidMetH_plain _ _ _ (by kernel_rfl)]
    exact laidMet_laidAll _ (by kernel_rfl) (by kernel_rfl)
  · simp only [Assume.holds]
    exact ⟨by simp, by simp, fun h => by simp at h, by simp, by simp⟩

set_option maxRecDepth 100000 in
theorem back_lifted (os : Os) (started : os.Started) (H : Type) (enc : TypeId × Value → H) (F : Stop.Interp) :
    ReturnsInHanded {} Tryd.checked os 3 .any ((Rows.OpenSpec.upto Rows.codeBackSpec).preRow enc Tryd.prog Tryd.f3 Rows.codeBackUptoRow.domain false Rows.codeBackUptoRow.laid) (((Rows.OpenSpec.upto Rows.codeBackSpec).at F).post enc Tryd.prog Tryd.f3 false true false false) := by
  refine returnsInHanded_of_row (C := Tryd.checked) (s := Rows.OpenSpec.upto Rows.codeBackSpec) own started (by kernel_rfl) Tryd.func3 (back_witness os H enc) ?_
  intro W base args ds gs before hval0 hW _ hcond _ hL _ _
  have hval : ∀ (j : Nat) t v, Tryd.f3.params[j]? = some t → args[j]? = some v → Value.okWide Tryd.prog W .any base t v := hval0
  have hW' := hW
  obtain ⟨p, q, hA0, hV, rfl, hfz, hnd⟩ := hW
  have hA : DataW.TrodAll enc Tryd.prog W 0 (fun _ => true) true Tryd.f3.params.toList args.toList ds p := hA0
  rw [Tryd.params3] at hA hval
  obtain ⟨v0, v1, v2, d0, d1, d2, p0, p1, p2, rfl, rfl, rfl, h0, h1, h2⟩ := trodAll_three hA
  obtain ⟨rfl, rfl⟩ := trodVars_none hV
  have hbound : Rows.uptoBulkAll ([d0, d1, d2] ++ []) ≤ 1048576 := by
    have := hcond _ rfl
    simpa [Rows.uptoSmall] using this
  obtain ⟨l, ho, hlen⟩ := open_ops (hval 0 22 v0 rfl rfl) h0
  obtain ⟨t, rfl, rfl, rfl, _⟩ := Go.ChangeMaps.open_string Tryd.underlying9 (hval 1 9 v1 rfl rfl) h1
  obtain ⟨o, rfl⟩ := open_op (hval 2 24 v2 rfl rfl) h2
  have ht : t.size ≤ 1099511627776 := by
    simp [Rows.uptoBulkAll, Rows.uptoBulk] at hbound
    have : t.size = t.data.size := rfl
    omega
  refine (back_walk v0 l t o W (back_tabs hL) ho ht).mono fun e W' ⟨he, hb⟩ => ?_
  subst he
  exact ⟨_, rfl, law_post (s := Rows.codeBackSpec) (by kernel_rfl) (by kernel_rfl) rfl hW' rfl hb⟩

theorem codeBack_saidUpto : Rows.CodeBackUptoSaid :=
  OpenClaim.holds_of_cond 3 Tryd.f3 rfl rfl rfl rfl rfl rfl rfl ⟨rfl, rfl, rfl, rfl, rfl⟩ rfl rfl rfl rfl rfl (by kernel_rfl) Tryd.func3 (by kernel_rfl)
    (of_decide_eq_true (by kernel_rfl)) (by unfold Func.isWrapper; first | (rw [if_pos (by decide +kernel)]; kernel_rfl) | (rw [if_neg (by decide +kernel)]; exact ⟨rfl, rfl⟩))
    (fun os started H enc _ F => by rw [OpenClaim.pre_eq_preRow]; exact back_lifted os started H enc F)

theorem codeBackUpto_holds : Rows.CodeBackUptoCardSaid :=
  Claim7.holds_tied_plain_at .later [] _ true _ true
    codeBack_saidUpto (fun _ h => by cases h) (by kernel_rfl) (fun _ h => by cases h) codeBackUpto_row_tie rfl ⟨rfl, rfl⟩ (by kernel_rfl) rfl
    (fun f fn hf hfn => by
      obtain rfl : f = 3 := Option.some.inj ((show Tryd.prog.funcNamed "framekeep/framelaw1.CodeBack" = some 3 by kernel_rfl).symm.trans hf) |>.symm
      obtain rfl : fn = Tryd.f3 := (Option.some.inj (Tryd.func3.symm.trans hfn)).symm
      exact ⟨by kernel_rfl, fun j t ht => by
        rw [Tryd.params3] at ht
        have hm : t ∈ [22, 9, 24] := by simpa using Array.mem_of_getElem? ht
        have hall : ([22, 9, 24].all fun u => !Tryd.prog.wantsStandIn u) = true := by kernel_rfl
        exact (show Tryd.prog.wantsStandIn t = false by simpa using List.all_eq_true.1 hall t hm)⟩)
    (by kernel_rfl)
#print axioms codeBackUpto_holds
end Go.Proofs.YtfneffmiignapaaDoor

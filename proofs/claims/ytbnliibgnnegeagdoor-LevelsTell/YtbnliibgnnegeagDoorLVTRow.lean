/-
  PROVED: framelaw2.LevelsTell returns true, of every wires and two rooms: groups of rooms, their least levels, and who is apart.
  Conditions: the listed package variable holds when the call begins what the program's own text lays (the card ties it); none else.
-/
import Derived.Test.YtbnliibgnnegeagDoorLTell
import Derived.Test.YtbnliibgnnegeagDoorLvLeast
import Derived.Test.YtbnliibgnnegeagDoorLvRings
import Derived.Test.YtbnliibgnnegeagDoorLvApart
import Derived.Test.YtbnliibgnnegeagDoorFlowOpen
import Derived.Test.YtbnliibgnnegeagDoorToldL
import Derived.Test.YtbnliibgnnegeagDoorTrod
import Derived.Test.YtbnliibgnnegeagDoorLaidL
namespace Go.Proofs.YtbnliibgnnegeagDoor
open Go.ChangeShapes Go.WideShapes Go.ChangeAt Go.WideElems Go.RowKit

theorem lvt_parts {W : World} (h : laidMetH Tryd.prog Rows.levelsTellRow.laid W) : laidMet Tryd.prog plainLaid W ∧ handlesMet Tryd.prog [("errors.errorType", Rows.laid_errors_errorType)] W := h
theorem lvt_met (os : Os) (args : Array Value) : laidMetH Tryd.prog Rows.levelsTellRow.laid ((tellsWorld os).forCall (fun _ _ => 0) ⟨#[], args, []⟩).memory :=
  laidMetH_of_parts (show laidMet Tryd.prog plainLaid _ from tells_laid os _) (by kernel_rfl)

set_option maxRecDepth 100000 in
theorem lvt_lifted (os : Os) (started : os.Started) (H : Type) (enc : TypeId × Value → H) :
    ReturnsInHanded {} Tryd.checked os 3 .any (fun w args => (Rows.levelsTellSpec.pre enc Tryd.prog Tryd.f3 [] false w args ∧ laidMetH Tryd.prog Rows.levelsTellRow.laid w) ∧ sizedMet enc Tryd.prog Tryd.f3 (OpenSpec.ofChange Rows.levelsTellSpec) false w args)
      (Rows.levelsTellSpec.post enc Tryd.prog Tryd.f3 false true false false) := by
  refine returnsInHanded_of_change_and (C := Tryd.checked) (X := fun w _ => laidMetH Tryd.prog Rows.levelsTellRow.laid w) (fun _ _ _ hh h => h.of_heap hh) own started (by kernel_rfl) Tryd.func3
    (ChangeSpec.witness_shaped (enc := enc) (C := Tryd.checked) (os := os) (X := fun w _ => laidMetH Tryd.prog Rows.levelsTellRow.laid w) false (tellsWorld os) #[.slice none 0 0, .int .i64 0, .int .i64 0] 8 (World.layVars_os _ _ _) (World.shaped_of_ZipB (by kernel_rfl) (by kernel_rfl)) (by kernel_rfl) (by kernel_rfl) (by kernel_rfl) (lvt_met os _)) ?_
  intro W base args ds gs before hval0 hW _ _ hL _
  have hval : ∀ (j : Nat) t v, Tryd.f3.params[j]? = some t → args[j]? = some v → Value.okWide Tryd.prog W .any base t v := hval0
  have hW' := hW
  obtain ⟨p, q, hA0, hV, rfl, hfz, hnd⟩ := hW
  have hA : DataW.TrodAll enc Tryd.prog W 0 (fun _ => true) true Tryd.f3.params.toList args.toList ds p := hA0
  rw [Tryd.params3] at hA hval
  obtain ⟨v0, v1, v2, d0, d1, d2, p0, p1, p2, rfl, rfl, rfl, h0, h1, h2⟩ := trodAll_three hA
  obtain ⟨rfl, rfl⟩ := trodVars_none hV
  obtain ⟨l, hl⟩ := open_wrs (hval 0 22 v0 rfl rfl) h0
  obtain ⟨a, rfl⟩ := okWide_int Tryd.underlying3 (hval 1 3 v1 rfl rfl)
  obtain ⟨b, rfl⟩ := okWide_int Tryd.underlying3 (hval 2 3 v2 rfl rfl)
  obtain ⟨_, hL2⟩ := lvt_parts hL
  refine (ltell_of (G := ErrT) (fun _ _ h hb => h.all hb) (lev_least_ok _) (lev_rings _) (lev_apart _) (fun e W h => (error_any e e W h).mono (fun r w2 hr => ⟨by rw [hr.1]; simp, hr.2⟩)) l v0 a b W (errT_of_laid hL2) hl).mono fun e W' ⟨he, hb⟩ => ?_
  subst he
  exact ⟨_, rfl, law_post (by kernel_rfl) (by kernel_rfl) rfl hW' rfl hb⟩

theorem levelsTell_said : Rows.LevelsTellSaid :=
  OpenClaim.holds_of_wide 3 Tryd.f3 rfl rfl rfl rfl rfl rfl rfl ⟨rfl, rfl, rfl, rfl, rfl⟩ rfl rfl rfl rfl rfl (by kernel_rfl) Tryd.func3 (by kernel_rfl)
    (of_decide_eq_true (by kernel_rfl)) (by unfold Func.isWrapper; first | (rw [if_pos (by decide +kernel)]; kernel_rfl) | (rw [if_neg (by decide +kernel)]; exact ⟨rfl, rfl⟩))
    (fun os started H enc _ => lvt_lifted os started H enc)

theorem levelsTell_holds : Rows.LevelsTellCardSaid :=
  Claim7.holds_tied_plain_at .later [] _ true _ true
    levelsTell_said (fun _ h => by cases h) (by kernel_rfl) (fun _ h => by cases h) levelsTell_row_tie rfl ⟨rfl, rfl⟩ (by kernel_rfl) rfl
    (fun f fn hf hfn => by
      obtain rfl : f = 3 := Option.some.inj ((show Tryd.prog.funcNamed "framekeep/framelaw2.LevelsTell" = some 3 by kernel_rfl).symm.trans hf) |>.symm
      obtain rfl : fn = Tryd.f3 := (Option.some.inj (Tryd.func3.symm.trans hfn)).symm
      exact ⟨by kernel_rfl, fun j t ht => by
        rw [Tryd.params3] at ht
        have hm : t ∈ [22, 3, 3] := by simpa using Array.mem_of_getElem? ht
        have hall : ([22, 3, 3].all fun u => !Tryd.prog.wantsStandIn u) = true := by kernel_rfl
        exact (show Tryd.prog.wantsStandIn t = false by simpa using List.all_eq_true.1 hall t hm)⟩)
    (by kernel_rfl)
#print axioms levelsTell_holds
end Go.Proofs.YtbnliibgnnegeagDoor

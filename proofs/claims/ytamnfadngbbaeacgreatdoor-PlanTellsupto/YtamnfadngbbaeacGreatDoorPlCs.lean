/-
  What package plan does, as its laws ask it.
-/
import Derived.Test.YtamnfadngbbaeacGreatDoorPlanLaw0
import Derived.Test.YtamnfadngbbaeacGreatDoorPBack0
import Derived.Test.YtamnfadngbbaeacGreatDoorPlParse
import Derived.Test.YtamnfadngbbaeacGreatDoorPlPrint
import Derived.Test.YtamnfadngbbaeacGreatDoorPlCheck
import Derived.Test.YtamnfadngbbaeacGreatDoorAsA
namespace Go.Proofs.YtamnfadngbbaeacGreatDoor
open Go.RowKit

/-- The worlds in which the laws are walked: the listed variables lie in them. -/
structure PlG (w : World) : Prop where
  tabs : Tabs2 w
  parts : Parts w
theorem PlG.all {w w' : World} (h : PlG w) (hb : Below w.heap.size w w') : PlG w' := ⟨h.tabs.all hb, h.parts.all hb⟩
theorem plg_chk (p : PD) (vc vs vw : Value) (W : World) (h : PlG W) (hp : Pln W vc vs vw p) : Calls Tryz.prog 7 #[plV vc p.ticks vs vw] W fun e w' => e = .returned (wErr (plchk p)) ∧ Below W.heap.size W w' := plcheck_any p vc vs vw W h.tabs.tabs.forms hp
theorem plg_prs (t : ByteArray) (W : World) (h : PlG W) (hs : t.size ≤ 1099511627776) : Calls Tryz.prog 11 #[.string t] W (PrsP W (planP t.data.toList)) :=
  plparse_any (G := PlG) (fun _ _ h hb => h.all hb) (fun _ h => ⟨h.tabs, h.parts⟩) plg_chk t W h hs
theorem plan_fr : PlanFr PlG := fun t X W h hs hX => by
  refine (plg_prs t W h hs).mono ?_
  rintro e w' ⟨vc, vs, vw, rfl, hp, hb⟩
  rw [hX] at hp ⊢
  obtain ⟨ca, cc, rfl⟩ := hp.here.code.form
  obtain ⟨sa, sc, rfl⟩ := hp.here.spans.form
  obtain ⟨wa, wc, rfl⟩ := hp.here.wires.form
  exact ⟨ca, cc, sa, sc, wa, wc, rfl, hp, hb⟩
/-- With an error asked by errors.As. -/
structure PlGe (w : World) : Prop where
  g : PlG w
  err : ErrT w
theorem PlGe.all {w w' : World} (h : PlGe w) (hb : Below w.heap.size w w') : PlGe w' := ⟨h.g.all hb, h.err.all hb⟩
theorem plan_cb : PlanCb PlG where
  all := fun _ _ h hb => h.all hb
  chk := plg_chk
  prt := fun p vc vs vw W h hp => plprint_any (G := PlG) (fun _ _ h hb => h.all hb) (fun _ h => ⟨h.tabs, h.parts⟩) plg_chk p vc vs vw W h hp
  prs := fun t W h hs => (plg_prs t W h hs).mono (by
    rintro e w' ⟨vc, vs, vw, rfl, hp, hb⟩
    exact ⟨vc, vs, vw, rfl, hp.here, hb⟩)
theorem plan_cs : PlanCs PlGe where
  all := fun _ _ h hb => h.all hb
  chk := fun p vc vs vw W h hp => plan_cb.chk p vc vs vw W h.g hp
  prt := fun p vc vs vw W h hp => plan_cb.prt p vc vs vw W h.g hp
  prs := fun t W h hs => plan_cb.prs t W h.g hs
  err := fun e W h => (error_any e e W h.err).mono (by
    rintro r w' ⟨rfl, hb⟩
    exact ⟨by simp, hb⟩)
end Go.Proofs.YtamnfadngbbaeacGreatDoor

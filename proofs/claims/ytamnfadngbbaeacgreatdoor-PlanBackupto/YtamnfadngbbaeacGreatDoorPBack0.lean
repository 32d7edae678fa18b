/-
  The law PlanBack: what it asks of package plan, in the forms that its walk takes.
-/
import Derived.Test.YtamnfadngbbaeacGreatDoorPlanLaw0
import Derived.Test.YtamnfadngbbaeacGreatDoorMathA
import Derived.Deep.RegionHeld
namespace Go.Proofs.YtamnfadngbbaeacGreatDoor
open Go.RowKit

theorem itoa_dig {z : Int} (h0 : 0 ≤ z) (h1 : z < 10) : Lib.itoa z = [UInt8.ofNat (48 + z.toNat)] := by rw [itoa_pos h0]; exact Lib.decDigits_one (by omega)
def pFact : PD := ⟨[[(10, 0, 0)]], 3, [(0, 1, 0)], []⟩
theorem pFact_ok : plchk pFact = 0 := by decide
theorem pFact_text : planB pFact = [102, 114, 97, 109, 101, 32, 51, 10, 115, 112, 97, 110, 32, 48, 32, 49, 32, 48, 10, 114, 111, 111, 109, 10, 114, 101, 115, 116, 10] := by
  simp [planB, planL, endL, frameL, spanL, roomL, opL, wRoom, wFrame, wSpan, pFact, tail, nameB, numsB, itoa_dig]
theorem pfact_read : planP [102, 114, 97, 109, 101, 32, 51, 10, 115, 112, 97, 110, 32, 48, 32, 49, 32, 48, 10, 114, 111, 111, 109, 10, 114, 101, 115, 116, 10] = (pFact, 0) := by rw [← pFact_text]; exact plan_read pFact_ok
theorem PlanCb.fact {G : World → Prop} (C : PlanCb G) (W : World) (hg : G W) :
    Calls Tryz.prog 11 #[.string ⟨#[102, 114, 97, 109, 101, 32, 51, 10, 115, 112, 97, 110, 32, 48, 32, 49, 32, 48, 10, 114, 111, 111, 109, 10, 114, 101, 115, 116, 10]⟩] W fun e w' => ∃ ca cc sa sc wa wc, e = .returned (.tuple #[.agg #[.slice ca 1 cc, .int .i64 3, .slice sa 1 sc, .slice wa 0 wc], .nilIface]) ∧ Below W.heap.size W w' := by
  refine (C.prs ⟨#[102, 114, 97, 109, 101, 32, 51, 10, 115, 112, 97, 110, 32, 48, 32, 49, 32, 48, 10, 114, 111, 111, 109, 10, 114, 101, 115, 116, 10]⟩ W hg (by decide)).mono ?_
  rintro e w' ⟨vc, vs, vw, rfl, hp, hb⟩
  rw [show planP (ByteArray.mk #[102, 114, 97, 109, 101, 32, 51, 10, 115, 112, 97, 110, 32, 48, 32, 49, 32, 48, 10, 114, 111, 111, 109, 10, 114, 101, 115, 116, 10]).data.toList = (pFact, 0) from pfact_read] at hp ⊢
  obtain ⟨ca, cc, rfl⟩ := hp.code.form
  obtain ⟨sa, sc, rfl⟩ := hp.spans.form
  obtain ⟨wa, wc, rfl⟩ := hp.wires.form
  exact ⟨ca, cc, sa, sc, wa, wc, rfl, hb⟩
theorem PlanCb.good {G : World → Prop} (C : PlanCb G) (t : ByteArray) (X : PD) (W : World) (hg : G W) (hl : t.size ≤ 1099511627776) (h : planP t.data.toList = (X, 0)) :
    Calls Tryz.prog 11 #[.string t] W fun e w' => ∃ ca cc sa sc wa wc, e = .returned (.tuple #[.agg #[.slice ca X.code.length cc, .int .i64 X.ticks, .slice sa X.spans.length sc, .slice wa X.wires.length wc], .nilIface]) ∧ Pln w' (.slice ca X.code.length cc) (.slice sa X.spans.length sc) (.slice wa X.wires.length wc) X ∧ Below W.heap.size W w' := by
  refine (C.prs t W hg hl).mono ?_
  rintro e w' ⟨vc, vs, vw, rfl, hp, hb⟩
  rw [h] at hp ⊢
  obtain ⟨ca, cc, rfl⟩ := hp.code.form
  obtain ⟨sa, sc, rfl⟩ := hp.spans.form
  obtain ⟨wa, wc, rfl⟩ := hp.wires.form
  exact ⟨ca, cc, sa, sc, wa, wc, rfl, hp, hb⟩
theorem PlanCb.bad {G : World → Prop} (C : PlanCb G) (t : ByteArray) (W : World) (hg : G W) (hl : t.size ≤ 1099511627776) (h : (planP t.data.toList).2 ≠ 0) :
    Calls Tryz.prog 11 #[.string t] W fun e w' => ∃ ca cn cc n sa sn sc wa wn wc z, e = .returned (.tuple #[.agg #[.slice ca cn cc, .int .i64 n, .slice sa sn sc, .slice wa wn wc], .iface 52 (.int .i64 z)]) ∧ Below W.heap.size W w' := by
  refine (C.prs t W hg hl).mono ?_
  rintro e w' ⟨vc, vs, vw, rfl, hp, hb⟩
  obtain ⟨ca, cc, rfl⟩ := hp.code.form
  obtain ⟨sa, sc, rfl⟩ := hp.spans.form
  obtain ⟨wa, wc, rfl⟩ := hp.wires.form
  exact ⟨ca, _, cc, _, sa, _, sc, wa, _, wc, _, by rw [wErr_not h]; rfl, hb⟩
theorem PlanCb.printed {G : World → Prop} (C : PlanCb G) (X : PD) (vc vs vw : Value) (t : ByteArray) (W : World) (hg : G W) (hp : Pln W vc vs vw X) (h : plchk X = 0) (ht : planB X = t.data.toList) :
    Calls Tryz.prog 9 #[.agg #[vc, .int .i64 X.ticks, vs, vw]] W fun e w' => e = .returned (.tuple #[.string t, .nilIface]) ∧ Below W.heap.size W w' := by
  have := C.prt X vc vs vw W hg hp
  unfold prtB at this
  rw [if_pos h, h, ht] at this
  exact this
theorem PlanCb.unprinted {G : World → Prop} (C : PlanCb G) (X : PD) (vc vs vw : Value) (W : World) (hg : G W) (hp : Pln W vc vs vw X) (h : plchk X ≠ 0) :
    Calls Tryz.prog 9 #[.agg #[vc, .int .i64 X.ticks, vs, vw]] W fun e w' => ∃ s, e = .returned (.tuple #[.string s, .iface 52 (.int .i64 (plchk X))]) ∧ Below W.heap.size W w' := by
  refine (C.prt X vc vs vw W hg hp).mono ?_
  rintro e w' ⟨rfl, hb⟩
  exact ⟨_, by rw [wErr_not h], hb⟩
theorem PlanCb.wrong {G : World → Prop} (C : PlanCb G) (X : PD) (vc vs vw : Value) (W : World) (hg : G W) (hp : Pln W vc vs vw X) (h : plchk X ≠ 0) :
    Calls Tryz.prog 7 #[.agg #[vc, .int .i64 X.ticks, vs, vw]] W fun e w' => e = .returned (.iface 52 (.int .i64 (plchk X))) ∧ Below W.heap.size W w' := by
  have := C.chk X vc vs vw W hg hp
  rw [wErr_not h] at this
  exact this
/-- What Parse answers to a good text is new. -/
def PlanFr (G : World → Prop) : Prop := ∀ (t : ByteArray) (X : PD) (W : World), G W → t.size ≤ 1099511627776 → planP t.data.toList = (X, 0) →
    Calls Tryz.prog 11 #[.string t] W fun e w' => ∃ ca cc sa sc wa wc, e = .returned (.tuple #[.agg #[.slice ca X.code.length cc, .int .i64 X.ticks, .slice sa X.spans.length sc, .slice wa X.wires.length wc], .nilIface]) ∧ PlnF W.heap.size w' (.slice ca X.code.length cc) (.slice sa X.spans.length sc) (.slice wa X.wires.length wc) X ∧ Below W.heap.size W w'
/-- A box written again. -/
abbrev lay4 (W : World) (b : Nat) (x0 x1 x2 x3 : Value) : World := (((W.setCell ⟨b, 0, none⟩ x0).setCell ⟨b, 1, none⟩ x1).setCell ⟨b, 2, none⟩ x2).setCell ⟨b, 3, none⟩ x3
theorem lay4_cs {W : World} {b : Nat} {v0 v1 v2 v3 : Value} (h : W.cell? ⟨b, 0, none⟩ = some v0 ∧ W.cell? ⟨b, 1, none⟩ = some v1 ∧ W.cell? ⟨b, 2, none⟩ = some v2 ∧ W.cell? ⟨b, 3, none⟩ = some v3) (x0 x1 x2 x3 : Value) :
    (lay4 W b x0 x1 x2 x3).cell? ⟨b, 0, none⟩ = some x0 ∧ (lay4 W b x0 x1 x2 x3).cell? ⟨b, 1, none⟩ = some x1 ∧ (lay4 W b x0 x1 x2 x3).cell? ⟨b, 2, none⟩ = some x2 ∧ (lay4 W b x0 x1 x2 x3).cell? ⟨b, 3, none⟩ = some x3 := by
  obtain ⟨c0, c1, c2, c3⟩ := h
  unfold lay4
  refine ⟨?_, ?_, ?_, ?_⟩ <;> simp [go_sem, c0, c1, c2, c3]
theorem lay4_size (W : World) (b : Nat) (x0 x1 x2 x3 : Value) : W.heap.size ≤ (lay4 W b x0 x1 x2 x3).heap.size := by simp [lay4]
theorem lay4_far (W : World) (b : Nat) (x0 x1 x2 x3 : Value) {c : Nat} (h : c ≠ b) (o : Nat) : (lay4 W b x0 x1 x2 x3).cell? ⟨c, o, none⟩ = W.cell? ⟨c, o, none⟩ := by
  unfold lay4
  rw [World.cell?_setCell_far _ _ _ _ (Ne.symm h), World.cell?_setCell_far _ _ _ _ (Ne.symm h), World.cell?_setCell_far _ _ _ _ (Ne.symm h), World.cell?_setCell_far _ _ _ _ (Ne.symm h)]
theorem Bx.over {w W : World} {vc vs vw : Value} {n : Int} (h : Bx w W vc n vs vw) {b : Nat} (hb : w.heap.size + 1 ≤ b) (x0 x1 x2 x3 : Value) : Bx w (lay4 W b x0 x1 x2 x3) vc n vs vw :=
  Below.setCell (p := ⟨b, 3, none⟩) (Below.setCell (p := ⟨b, 2, none⟩) (Below.setCell (p := ⟨b, 1, none⟩) (Below.setCell (p := ⟨b, 0, none⟩) h hb x0) hb x1) hb x2) hb x3
theorem small_of {p : PD} (h : plchk p = 0) : p.code.length ≤ 1000 ∧ p.spans.length ≤ 1000 ∧ p.wires.length ≤ 1000 ∧ ∀ c ∈ p.code, c.length ≤ 1000 := by
  have := planP_small (planB p)
  rwa [plan_read h] at this
theorem planB_size {p : PD} (h : plchk p = 0) : (ByteArray.mk (planB p).toArray).size ≤ 1099511627776 := by
  have := prtB_len p
  unfold prtB at this
  rw [if_pos h] at this
  have e : (ByteArray.mk (planB p).toArray).size = (planB p).length := by simp [ByteArray.size]
  omega
end Go.Proofs.YtamnfadngbbaeacGreatDoor

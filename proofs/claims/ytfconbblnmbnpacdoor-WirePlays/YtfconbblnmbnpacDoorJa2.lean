/-
  ToldL, LaidL: joined into one text.
-/
import Derived.Test.YtfconbblnmbnpacDoorAsL
import Derived.Stop.LaidErr
import Derived.Test.YtfconbblnmbnpacDoorJa1
import Derived.Test.YtfconbblnmbnpacDoorCards
import Derived.Test.YtfconbblnmbnpacDoorTie
import Derived.Deep.DeepHandedRow
import Derived.ChangeMaps5
import Derived.LaidHandle
import Derived.Lay
namespace Go.Proofs.YtfconbblnmbnpacDoor
open Go.RowKit

set_option maxRecDepth 100000 in
set_option maxHeartbeats 4000000 in
theorem told_nil (w : World) : Calls Tryd.prog 23 #[.nilIface] w fun e w' => e = .returned (.int .i64 0) ∧ Below w.heap.size w w' := by
  go_enter Tryd.func23, Tryd.ntmps23
  go_wp2
  go_ret
  exact ⟨rfl, Below.refl _ _⟩
set_option maxRecDepth 100000 in
set_option maxHeartbeats 4000000 in
theorem told_errno (n : Int) (w : World) (hg : ErrT w) : Calls Tryd.prog 23 #[.iface 61 (.int .i64 n)] w fun e w' => e = .returned (.int .i64 n) ∧ Below w.heap.size w w' := by
  have b0 : Below w.heap.size w (w.alloc (.cells #[.int .i64 0] 61)) := (Below.refl _ _).alloc (Nat.le_refl _) _
  have h := as_hit n ⟨w.heap.size, 0, none⟩ (.int .i64 0) (w.alloc (.cells #[.int .i64 0] 61)) (hg.all b0) (by simp) (by simp)
  go_enter Tryd.func23, Tryd.ntmps23
  go_wp2_with (go_at_call 31; refine h.mono ?_; rintro e w1 ⟨rfl, w0, rfl, c0, f0, bb⟩; clear h)
  go_ret
  exact ⟨rfl, (b0.trans (bb.mono b0.size)).setCell (p := ⟨w.heap.size, 0, none⟩) (Nat.le_refl _) _⟩
theorem told_any (e : Int) (w : World) (hg : ErrT w) : Calls Tryd.prog 23 #[wErr e] w fun r w' => r = .returned (.int .i64 e) ∧ Below w.heap.size w w' := by
  by_cases h : e = 0
  · subst h
    exact told_nil w
  · rw [show wErr e = .iface 61 (.int .i64 e) from by simp [wErr, h]]
    exact told_errno e w hg
set_option maxRecDepth 100000 in
set_option maxHeartbeats 4000000 in
theorem error_any (e k : Int) (w : World) (hg : ErrT w) : Calls Tryd.prog 6 #[wErr e, .int .i64 k] w fun r w' => r = .returned (.bool (decide (e = k))) ∧ Below w.heap.size w w' := by
  have h := told_any e w hg
  obtain ⟨v, hv⟩ : ∃ v, v = wErr e := ⟨_, rfl⟩
  rw [← hv] at h ⊢
  clear hv
  go_enter Tryd.func6, Tryd.ntmps6
  go_wp2_with (go_at_call 23; refine h.mono ?_; rintro e w1 ⟨rfl, bb⟩; clear h)
  go_ret
  exact ⟨wretB (by rw [Bool.eq_iff_iff]; simp), bb⟩
end Go.Proofs.YtfconbblnmbnpacDoor
namespace Go.Proofs.YtfconbblnmbnpacDoor
open Go.ChangeShapes Go.WideShapes Go.ChangeAt Go.WideElems Go.RowKit

theorem gErrT : Tryd.prog.globalNamed "errors.errorType" = some 0 := by kernel_rfl
theorem rtT : (Tryd.prog.cutTypes.find? (·.1 == "internal/reflectlite.rtype")).map (·.2) = some 87 := by kernel_rfl
theorem oneRow : ((List.range 130).filter fun t => Tryd.prog.rowNamed t [101, 114, 114, 111, 114]) = [28] := by kernel_rfl
theorem manyT : Tryd.prog.types.size = 130 := by kernel_rfl
/-- The listed variables that are plain data: none. -/
def plainLaid : List (String × DataW Unit) := []
theorem errT_of_laid {W : World} (h : handlesMet Tryd.prog [("errors.errorType", Rows.laid_errors_errorType)] W) : ErrT W := by
  obtain ⟨name, u, ty, e1, e2, e3, e4, e5⟩ := h _ (List.mem_singleton.2 rfl)
  have en : name = [101, 114, 114, 111, 114] := (Option.some.inj e1).symm
  subst en
  obtain rfl := Option.some.inj (rtT.symm.trans e2)
  have hm : ty ∈ (List.range 130).filter fun t => Tryd.prog.rowNamed t [101, 114, 114, 111, 114] := List.mem_filter.2 ⟨List.mem_range.2 (by rw [← manyT]; exact e3), e4⟩
  rw [oneRow] at hm
  obtain rfl := List.mem_singleton.1 hm
  have hh : typeHandle Tryd.prog 28 = .pointer (some ⟨1, 28, none⟩) := by kernel_rfl
  rw [hh] at e5
  have := World.var?_cell gErrT e5 0
  unfold ErrT
  simpa using this
/-- The settled world, the handle's cell laid. -/
noncomputable def handleWorld (os : Os) : World :=
  let w0 := World.holding Tryd.prog os ⟨#[], #[], []⟩
  { w0 with heap := w0.heap.modify 0 fun
      | .cells _ t frozen => .cells #[.iface 87 (.agg #[.pointer (some ⟨1, 28, none⟩)])] t frozen
      | o => o }
noncomputable def tellsWorld (os : Os) : World := (handleWorld os).layVars Tryd.prog plainLaid
theorem tells_laid (os : Os) (args : Array Value) : laidMet Tryd.prog plainLaid ((tellsWorld os).forCall (fun _ _ => 0) ⟨#[], args, []⟩).memory := by
  have e1 : (plainLaid.filter fun x => (plainLaid.map (·.1)).contains x.1) = plainLaid := List.filter_eq_self.2 fun x hx => List.contains_iff_mem.2 (List.mem_map.2 ⟨x, hx, rfl⟩)
  have e2 : (plainLaid.filter fun x => !(plainLaid.map (·.1)).contains x.1) = [] := List.filter_eq_nil_iff.2 fun x hx => by rw [List.contains_iff_mem.2 (List.mem_map.2 ⟨x, hx, rfl⟩)]; simp
  have h : laidMet Tryd.prog plainLaid (tellsWorld os) := laidMet_layVars (w0 := handleWorld os) (plainLaid.map (·.1)) [] (by rw [e1]; rfl) (by rw [e1]; kernel_rfl) (by rw [e1]; kernel_rfl) (by rw [e2]; exact LaidIn.none)
  exact h.of_heap (by simp [World.memory, World.forCall, Input.heap])
end Go.Proofs.YtfconbblnmbnpacDoor

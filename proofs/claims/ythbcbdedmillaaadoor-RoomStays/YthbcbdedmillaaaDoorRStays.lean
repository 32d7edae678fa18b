/-
  The law RoomStays: the walk.
-/
import Derived.Test.YthbcbdedmillaaaDoorRLaw
namespace Go.Proofs.YthbcbdedmillaaaDoor
open Go.RowKit

theorem step_first (W : World) (v : Value) (hf : Forms W) (hl : Ops W v [(4, 0, 1)]) :
    Calls Tryd.prog 17 #[v, .agg #[.int .i64 0, .int .i64 3, .int .i64 5, .int .i64 0, .int .i64 0, .int .i64 0, .int .i64 0, .bool false], .int .i64 0, .bool false] W fun ev w' => ev = .returned (.tuple #[.agg #[.int .i64 0, .int .i64 998, .int .i64 5, .int .i64 0, .int .i64 0, .int .i64 0, .int .i64 0, .bool false], .int .i64 (-1), .nilIface]) ∧ Below W.heap.size W w' :=
  rstep_any [(4, 0, 1)] v ⟨0, fun i => if i = 0 then 3 else if i = 1 then 5 else 0, false⟩ 0 false W hf hl

set_option maxRecDepth 100000 in
set_option maxHeartbeats 8000000 in
theorem rstays_err (l : List O3) (ao : Option Addr) (cap : Nat) (s : St) (got other e : Int) (is : Bool) (w : World) (hf : Forms w) (hl : Ops w (.slice ao l.length cap) l) (he : e ≠ 0) (hg : stepT l s got is = .tuple #[stV st0, .int .i64 0, errV e]) :
    Calls Tryd.prog 6 #[.slice ao l.length cap, stV s, .int .i64 got, .bool is, .int .i64 other] w fun ev w' => ev = .returned (.bool true) ∧ Below w.heap.size w w' := by
  have hA := fun W v hf hl => step_first W v hf hl
  have hB := fun W hf hl => rstep_any l (.slice ao l.length cap) s got is W hf hl
  rw [hg] at hB
  rw [show errV e = .iface 58 (.int .i64 e) from by simp [errV, he]] at hB
  have HF : Hid (Forms w) := hf
  have HL : Hid (Ops w (.slice ao l.length cap) l) := hl
  clear hf hl hg
  unfold stV at hB ⊢
  go_enter Tryd.func6, Tryd.ntmps6
  go_wp2_with (first
    | (go_at_call 17; refine (hA _ _ ((HF.out.alloc _).alloc _) (ops_one' _ _ _ _ _ _ (by simp))).mono ?_; rintro ev w1 ⟨rfl, b1⟩; clear hA; have bw1 : Below w.heap.size w w1 := (((Below.refl _ w).alloc (Nat.le_refl _) _).alloc (by simp) _).trans (b1.mono (by simp <;> omega)); have hs1 : SBox w1 w.heap.size s := ((SBox.new w s _).keep (B := w.heap.size + 1) ((Below.refl _ _).alloc (by simp) _) (Nat.lt_succ_self _)).keep b1 (by simp <;> omega); have hsz1 : w.heap.size + 1 < w1.heap.size := (by have h := b1.size; simp at h; omega); clear b1; have hlt1 : w.heap.size < w1.heap.size := Nat.lt_of_succ_lt hsz1; obtain ⟨y0, y1, y2, y3, y4, y5, y6, y7⟩ := hs1)
    | (go_at_call 17; refine (hB _ ((HF.out.all bw1).alloc _) ((HL.out.all bw1).all ((Below.refl _ _).alloc (Nat.le_refl _) _))).mono ?_; rintro ev w2 ⟨rfl, b2⟩; clear hB; have bw2 : Below w.heap.size w w2 := (bw1.alloc (by have := bw1.size; omega) _).trans (b2.mono (by have := bw1.size; simp; omega))))
  go_ret
  exact ⟨rfl, bw2.alloc (by have := bw2.size; omega) _⟩
end Go.Proofs.YthbcbdedmillaaaDoor

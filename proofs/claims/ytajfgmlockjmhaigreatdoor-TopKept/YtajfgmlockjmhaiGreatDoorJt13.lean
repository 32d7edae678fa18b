/-
  RoomStep, RoomStep2: joined into one text.
-/
import Derived.Test.YtajfgmlockjmhaiGreatDoorJt12
import Derived.Test.YtajfgmlockjmhaiGreatDoorRoomNext
import Derived.BigRegion
namespace Go.Proofs.YtajfgmlockjmhaiGreatDoor
open Go.RowKit

/-- No state. -/
def st0 : St := ⟨0, fun _ => 0, false⟩
/-- The two boxes that room.Step lays at its head: the state that came in, the state that is told. -/
def W2 (w : World) (s : St) : World := (w.alloc (.cells #[.int .i64 s.p, .int .i64 (s.c 0), .int .i64 (s.c 1), .int .i64 (s.c 2), .int .i64 (s.c 3), .int .i64 (s.c 4), .int .i64 (s.c 5), .bool s.f] 73)).alloc (.cells #[.int .i64 0, .int .i64 0, .int .i64 0, .int .i64 0, .int .i64 0, .int .i64 0, .int .i64 0, .bool false] 73)
theorem w2_size (w : World) (s : St) : (W2 w s).heap.size = w.heap.size + 1 + 1 := by simp [W2]
theorem w2_below (w : World) (s : St) : Below w.heap.size w (W2 w s) := ((Below.refl _ _).alloc (Nat.le_refl _) _).alloc (by simp) _
/-- The boxes in a later world. -/
theorem w2_box {w w1 : World} {s : St} (b1 : Below (w.heap.size + 1 + 1) (W2 w s) w1) :
    (w1.cell? ⟨w.heap.size, 0, none⟩ = some (.int .i64 s.p) ∧ w1.cell? ⟨w.heap.size, 1, none⟩ = some (.int .i64 (s.c 0)) ∧ w1.cell? ⟨w.heap.size, 2, none⟩ = some (.int .i64 (s.c 1)) ∧ w1.cell? ⟨w.heap.size, 3, none⟩ = some (.int .i64 (s.c 2)) ∧ w1.cell? ⟨w.heap.size, 4, none⟩ = some (.int .i64 (s.c 3)) ∧ w1.cell? ⟨w.heap.size, 5, none⟩ = some (.int .i64 (s.c 4)) ∧ w1.cell? ⟨w.heap.size, 6, none⟩ = some (.int .i64 (s.c 5)) ∧ w1.cell? ⟨w.heap.size, 7, none⟩ = some (.bool s.f)) ∧
    (w1.cell? ⟨w.heap.size + 1, 0, none⟩ = some (.int .i64 0) ∧ w1.cell? ⟨w.heap.size + 1, 1, none⟩ = some (.int .i64 0) ∧ w1.cell? ⟨w.heap.size + 1, 2, none⟩ = some (.int .i64 0) ∧ w1.cell? ⟨w.heap.size + 1, 3, none⟩ = some (.int .i64 0) ∧ w1.cell? ⟨w.heap.size + 1, 4, none⟩ = some (.int .i64 0) ∧ w1.cell? ⟨w.heap.size + 1, 5, none⟩ = some (.int .i64 0) ∧ w1.cell? ⟨w.heap.size + 1, 6, none⟩ = some (.int .i64 0) ∧ w1.cell? ⟨w.heap.size + 1, 7, none⟩ = some (.bool false)) ∧
    (w1.frozen? ⟨w.heap.size + 1, 0, none⟩ = false ∧ w1.frozen? ⟨w.heap.size + 1, 1, none⟩ = false ∧ w1.frozen? ⟨w.heap.size + 1, 2, none⟩ = false ∧ w1.frozen? ⟨w.heap.size + 1, 3, none⟩ = false ∧ w1.frozen? ⟨w.heap.size + 1, 4, none⟩ = false ∧ w1.frozen? ⟨w.heap.size + 1, 5, none⟩ = false ∧ w1.frozen? ⟨w.heap.size + 1, 6, none⟩ = false ∧ w1.frozen? ⟨w.heap.size + 1, 7, none⟩ = false) ∧
    w.heap.size + 1 < w1.heap.size ∧ Below w.heap.size w w1 := by
  have hc : ∀ b o, b < w.heap.size + 1 + 1 → w1.cell? ⟨b, o, none⟩ = (W2 w s).cell? ⟨b, o, none⟩ := fun b o h => b1.cell (p := ⟨b, o, none⟩) h
  have hf : ∀ b o, b < w.heap.size + 1 + 1 → w1.frozen? ⟨b, o, none⟩ = (W2 w s).frozen? ⟨b, o, none⟩ := fun b o h => b1.frozen (p := ⟨b, o, none⟩) h
  refine ⟨?_, ?_, ?_, ?_, ?_⟩
  · simp only [hc w.heap.size _ (by omega)]
    simp [W2]
  · simp only [hc (w.heap.size + 1) _ (by omega)]
    simp [W2]
  · simp only [hf (w.heap.size + 1) _ (by omega)]
    simp [W2]
  · have := b1.size
    rw [w2_size] at this
    omega
  · exact (w2_below w s).trans (b1.mono (by omega))

/-- A whole state written into a box. -/
theorem put8_below {B b : Nat} {w W : World} (bw : Below B w W) (h : B ≤ b) (v0 v1 v2 v3 v4 v5 v6 v7 : Value) :
    Below B w ((((((((W.setCell ⟨b, 0, none⟩ v0).setCell ⟨b, 1, none⟩ v1).setCell ⟨b, 2, none⟩ v2).setCell ⟨b, 3, none⟩ v3).setCell ⟨b, 4, none⟩ v4).setCell ⟨b, 5, none⟩ v5).setCell ⟨b, 6, none⟩ v6).setCell ⟨b, 7, none⟩ v7) :=
  (((((((bw.setCell (p := ⟨b, 0, none⟩) h _).setCell (p := ⟨b, 1, none⟩) h _).setCell (p := ⟨b, 2, none⟩) h _).setCell (p := ⟨b, 3, none⟩) h _).setCell (p := ⟨b, 4, none⟩) h _).setCell (p := ⟨b, 5, none⟩) h _).setCell (p := ⟨b, 6, none⟩) h _).setCell (p := ⟨b, 7, none⟩) h _

set_option maxRecDepth 100000 in
set_option maxHeartbeats 4000000 in
theorem rstep_err (ao : Option Addr) (n cap : Nat) (e got : Int) (is : Bool) (s : St) (w : World) (he : e ≠ 0)
    (hk : Calls Tryz.prog 115 #[.slice ao n cap, stV s] (W2 w s) fun ev w' => ev = .returned (errV e) ∧ Below (w.heap.size + 1 + 1) (W2 w s) w') :
    Calls Tryz.prog 82 #[.slice ao n cap, stV s, .int .i64 got, .bool is] w fun ev w' => ev = .returned (.tuple #[stV st0, .int .i64 0, errV e]) ∧ Below w.heap.size w w' := by
  rw [show errV e = .iface 93 (.int .i64 e) from by simp [errV, he]] at hk ⊢
  have hk' := hk
  clear hk
  unfold stV at hk' ⊢
  unfold W2 at hk'
  go_enter Tryz.func82, Tryz.ntmps82
  go_wp2_with (go_at_call 115; refine hk'.mono ?_; rintro ev w1 ⟨rfl, b1⟩; clear hk'; obtain ⟨⟨c0, c1, c2, c3, c4, c5, c6, c7⟩, ⟨d0, d1, d2, d3, d4, d5, d6, d7⟩, ⟨f0, f1, f2, f3, f4, f5, f6, f7⟩, hsz, bw⟩ := w2_box (s := s) b1; clear b1)
  refine bodyPost_ret (v := .tuple #[stV st0, .int .i64 0, .iface 93 (.int .i64 e)]) ?_ rfl ⟨rfl, ?_⟩
  · simp [results, Tryz.results82, go_sem, d0, d1, d2, d3, d4, d5, d6, d7, stV, st0]
  · exact put8_below bw (Nat.le_succ _) _ _ _ _ _ _ _ _

end Go.Proofs.YtajfgmlockjmhaiGreatDoor
namespace Go.Proofs.YtajfgmlockjmhaiGreatDoor
open Go.RowKit

set_option maxRecDepth 100000 in
set_option maxHeartbeats 4000000 in
theorem rstep_got (ao : Option Addr) (n cap : Nat) (got : Int) (s : St) (w : World) (hg : got < 0 ∨ 999 < got)
    (hk : Calls Tryz.prog 115 #[.slice ao n cap, stV s] (W2 w s) fun ev w' => ev = .returned (.nilIface) ∧ Below (w.heap.size + 1 + 1) (W2 w s) w') :
    Calls Tryz.prog 82 #[.slice ao n cap, stV s, .int .i64 got, .bool true] w fun ev w' => ev = .returned (.tuple #[stV st0, .int .i64 0, errV 1]) ∧ Below w.heap.size w w' := by
  have hk' := hk
  clear hk
  have HO : outB got = true := by simpa [outB] using hg
  clear hg
  have ho := fun W => outside_any got W
  rw [HO] at ho
  clear HO
  unfold stV at hk' ⊢
  unfold W2 at hk'
  go_enter Tryz.func82, Tryz.ntmps82
  go_wp2_with (first | (go_at_call 115; refine hk'.mono ?_; rintro ev w1 ⟨rfl, b1⟩; clear hk') | (go_at_call 119; refine (ho _).mono ?_; rintro ev w2 ⟨rfl, b2⟩; clear ho; obtain ⟨⟨c0, c1, c2, c3, c4, c5, c6, c7⟩, ⟨d0, d1, d2, d3, d4, d5, d6, d7⟩, ⟨f0, f1, f2, f3, f4, f5, f6, f7⟩, hsz, bw⟩ := w2_box (s := s) (b1.trans (b2.mono (by have := b1.size; simp at this; omega))); clear b1 b2))
  refine bodyPost_ret (v := .tuple #[stV st0, .int .i64 0, errV 1]) ?_ rfl ⟨rfl, ?_⟩
  · simp [results, Tryz.results82, go_sem, d0, d1, d2, d3, d4, d5, d6, d7, stV, st0, errV]
  · exact put8_below bw (Nat.le_succ _) _ _ _ _ _ _ _ _

set_option maxRecDepth 100000 in
set_option maxHeartbeats 4000000 in
theorem rstep_failed (ao : Option Addr) (n cap : Nat) (got : Int) (is : Bool) (s : St) (w : World) (hg : is = true → outB got = false) (hs : s.f = true)
    (hk : Calls Tryz.prog 115 #[.slice ao n cap, stV s] (W2 w s) fun ev w' => ev = .returned (.nilIface) ∧ Below (w.heap.size + 1 + 1) (W2 w s) w') :
    Calls Tryz.prog 82 #[.slice ao n cap, stV s, .int .i64 got, .bool is] w fun ev w' => ev = .returned (.tuple #[stV s, .int .i64 (-1), .nilIface]) ∧ Below w.heap.size w w' := by
  have hk' := hk
  clear hk
  have ho := fun W => outside_any got W
  have HS : Hid (s.f = true) := hs
  clear hs
  unfold stV at hk' ⊢
  unfold W2 at hk'
  cases is with
  | false =>
    clear hg ho
    go_enter Tryz.func82, Tryz.ntmps82
    go_wp2_with (first | (go_at_call 115; refine hk'.mono ?_; rintro ev w1 ⟨rfl, b1⟩; clear hk'; obtain ⟨⟨c0, c1, c2, c3, c4, c5, c6, c7⟩, ⟨d0, d1, d2, d3, d4, d5, d6, d7⟩, ⟨f0, f1, f2, f3, f4, f5, f6, f7⟩, hsz, bw⟩ := w2_box (s := s) b1; clear b1; rw [HS.out] at c7))
    refine bodyPost_ret (v := .tuple #[stV s, .int .i64 (-1), .nilIface]) ?_ rfl ⟨rfl, ?_⟩
    · simp [results, Tryz.results82, go_sem, d0, d1, d2, d3, d4, d5, d6, d7, stV, HS.out]
    · exact put8_below bw (Nat.le_succ _) _ _ _ _ _ _ _ _
  | true =>
    rw [hg rfl] at ho
    clear hg
    go_enter Tryz.func82, Tryz.ntmps82
    go_wp2_with (first | (go_at_call 115; refine hk'.mono ?_; rintro ev w1 ⟨rfl, b1⟩; clear hk') | (go_at_call 119; refine (ho _).mono ?_; rintro ev w2 ⟨rfl, b2⟩; clear ho; obtain ⟨⟨c0, c1, c2, c3, c4, c5, c6, c7⟩, ⟨d0, d1, d2, d3, d4, d5, d6, d7⟩, ⟨f0, f1, f2, f3, f4, f5, f6, f7⟩, hsz, bw⟩ := w2_box (s := s) (b1.trans (b2.mono (by have := b1.size; simp at this; omega))); clear b1 b2; rw [HS.out] at c7))
    refine bodyPost_ret (v := .tuple #[stV s, .int .i64 (-1), .nilIface]) ?_ rfl ⟨rfl, ?_⟩
    · simp [results, Tryz.results82, go_sem, d0, d1, d2, d3, d4, d5, d6, d7, stV, HS.out]
    · exact put8_below bw (Nat.le_succ _) _ _ _ _ _ _ _ _
end Go.Proofs.YtajfgmlockjmhaiGreatDoor

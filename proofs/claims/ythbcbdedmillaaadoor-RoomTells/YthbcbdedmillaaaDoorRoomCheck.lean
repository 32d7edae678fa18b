/-
  room.Check, room.New: of any code and any state.
-/
import Derived.Test.YthbcbdedmillaaaDoorRoomBase
import Derived.Test.YthbcbdedmillaaaDoorRoomParts
namespace Go.Proofs.YthbcbdedmillaaaDoor
open Go.RowKit

set_option maxRecDepth 100000 in
set_option maxHeartbeats 1000000 in
theorem new_any (w : World) : Calls Tryd.prog 18 #[] w fun e w' => e = .returned (stV ⟨0, fun _ => 0, false⟩) ∧ Below w.heap.size w w' := by
  go_enter Tryd.func18, Tryd.ntmps18
  go_wp2
  refine bodyPost_ret (v := stV ⟨0, fun _ => 0, false⟩) ?_ rfl ⟨rfl, ?_⟩
  · simp [results, Tryd.results18, go_sem, stV]
  · repeat' first | exact Below.refl _ _ | refine Below.drew ?_ | refine Below.alloc ?_ (by simp <;> omega) _ | refine Below.setCell ?_ (by simp <;> omega) _

/-- The box of a state, in a later world. -/
theorem st_box {w w1 : World} {s : St} (b1 : Below (w.heap.size + 1) (w.alloc (.cells #[.int .i64 s.p, .int .i64 (s.c 0), .int .i64 (s.c 1), .int .i64 (s.c 2), .int .i64 (s.c 3), .int .i64 (s.c 4), .int .i64 (s.c 5), .bool s.f] 40)) w1) :
    w1.cell? ⟨w.heap.size, 0, none⟩ = some (.int .i64 s.p) ∧ (∀ i : Nat, i < 6 → w1.cell? ⟨w.heap.size, 1 + i, none⟩ = some (.int .i64 (s.c i))) ∧ w1.cell? ⟨w.heap.size, 7, none⟩ = some (.bool s.f) ∧ w.heap.size < w1.heap.size ∧ Below w.heap.size w w1 :=
  ⟨(b1.cell (p := ⟨w.heap.size, 0, none⟩) (by simp)).trans (by simp), six.2 ⟨(b1.cell (p := ⟨w.heap.size, 1, none⟩) (by simp)).trans (by simp), (b1.cell (p := ⟨w.heap.size, 2, none⟩) (by simp)).trans (by simp), (b1.cell (p := ⟨w.heap.size, 3, none⟩) (by simp)).trans (by simp), (b1.cell (p := ⟨w.heap.size, 4, none⟩) (by simp)).trans (by simp), (b1.cell (p := ⟨w.heap.size, 5, none⟩) (by simp)).trans (by simp), (b1.cell (p := ⟨w.heap.size, 6, none⟩) (by simp)).trans (by simp)⟩, (b1.cell (p := ⟨w.heap.size, 7, none⟩) (by simp)).trans (by simp),
   by have := b1.size; simp at this; omega, ((Below.refl _ w).alloc (Nat.le_refl _) _).trans (b1.mono (by omega))⟩

set_option maxRecDepth 100000 in
set_option maxHeartbeats 4000000 in
theorem rcheck_code (ao : Option Addr) (n cap : Nat) (k e : Int) (s : St) (w : World) (he : e ≠ 0)
    (hk : Calls Tryd.prog 10 #[.slice ao n cap] (w.alloc (.cells #[.int .i64 s.p, .int .i64 (s.c 0), .int .i64 (s.c 1), .int .i64 (s.c 2), .int .i64 (s.c 3), .int .i64 (s.c 4), .int .i64 (s.c 5), .bool s.f] 40)) fun ev w' => ev = .returned (.tuple #[.int .i64 k, errV e]) ∧ Below (w.heap.size + 1) (w.alloc (.cells #[.int .i64 s.p, .int .i64 (s.c 0), .int .i64 (s.c 1), .int .i64 (s.c 2), .int .i64 (s.c 3), .int .i64 (s.c 4), .int .i64 (s.c 5), .bool s.f] 40)) w') :
    Calls Tryd.prog 15 #[.slice ao n cap, stV s] w fun ev w' => ev = .returned (errV e) ∧ Below w.heap.size w w' := by
  rw [show errV e = .iface 58 (.int .i64 e) from by simp [errV, he]] at hk ⊢
  unfold stV
  go_enter Tryd.func15, Tryd.ntmps15
  go_wp2_with (go_at_call 10; refine hk.mono ?_; rintro ev w1 ⟨rfl, b1⟩; clear hk; obtain ⟨c0, c1, c2, c3, bw⟩ := st_box b1; clear b1 c0 c1 c2)
  go_ret
  exact ⟨rfl, bw⟩

set_option maxRecDepth 100000 in
set_option maxHeartbeats 4000000 in
theorem rcheck_place (ao : Option Addr) (n cap : Nat) (k : Int) (s : St) (w : World) (hs : ¬ (0 ≤ s.p ∧ s.p < n))
    (hk : Calls Tryd.prog 10 #[.slice ao n cap] (w.alloc (.cells #[.int .i64 s.p, .int .i64 (s.c 0), .int .i64 (s.c 1), .int .i64 (s.c 2), .int .i64 (s.c 3), .int .i64 (s.c 4), .int .i64 (s.c 5), .bool s.f] 40)) fun ev w' => ev = .returned (.tuple #[.int .i64 k, .nilIface]) ∧ Below (w.heap.size + 1) (w.alloc (.cells #[.int .i64 s.p, .int .i64 (s.c 0), .int .i64 (s.c 1), .int .i64 (s.c 2), .int .i64 (s.c 3), .int .i64 (s.c 4), .int .i64 (s.c 5), .bool s.f] 40)) w') :
    Calls Tryd.prog 15 #[.slice ao n cap, stV s] w fun ev w' => ev = .returned (errV 1) ∧ Below w.heap.size w w' := by
  unfold stV
  by_cases h0 : s.p < 0
  · go_enter Tryd.func15, Tryd.ntmps15
    go_wp2_with (go_at_call 10; refine hk.mono ?_; rintro ev w1 ⟨rfl, b1⟩; clear hk; obtain ⟨c0, c1, c2, c3, bw⟩ := st_box b1; clear b1 c1 c2)
    go_ret
    exact ⟨rfl, bw⟩
  · have h0' : decide (s.p < 0) = false := by simpa using h0
    have h1 : (n : Int) ≤ s.p := by omega
    go_enter Tryd.func15, Tryd.ntmps15
    go_wp2_with (go_at_call 10; refine hk.mono ?_; rintro ev w1 ⟨rfl, b1⟩; clear hk; obtain ⟨c0, c1, c2, c3, bw⟩ := st_box b1; clear b1 c1 c2)
    go_ret
    exact ⟨rfl, bw⟩
set_option maxRecDepth 100000 in
set_option maxHeartbeats 4000000 in
theorem rcheck_cells (ao : Option Addr) (n cap : Nat) (k : Int) (s : St) (w : World) (hs : 0 ≤ s.p ∧ s.p < n)
    (hk : Calls Tryd.prog 10 #[.slice ao n cap] (w.alloc (.cells #[.int .i64 s.p, .int .i64 (s.c 0), .int .i64 (s.c 1), .int .i64 (s.c 2), .int .i64 (s.c 3), .int .i64 (s.c 4), .int .i64 (s.c 5), .bool s.f] 40)) fun ev w' => ev = .returned (.tuple #[.int .i64 k, .nilIface]) ∧ Below (w.heap.size + 1) (w.alloc (.cells #[.int .i64 s.p, .int .i64 (s.c 0), .int .i64 (s.c 1), .int .i64 (s.c 2), .int .i64 (s.c 3), .int .i64 (s.c 4), .int .i64 (s.c 5), .bool s.f] 40)) w') :
    Calls Tryd.prog 15 #[.slice ao n cap, stV s] w fun ev w' => ev = .returned (errV (if cellsOk s.c = true then 0 else 1)) ∧ Below w.heap.size w w' := by
  unfold stV
  have h0 : decide (s.p < 0) = false := by simp; omega
  have h1 : decide ((n : Int) ≤ s.p) = false := by simp; omega
  obtain ⟨h2, h3⟩ := hs
  by_cases hc : cellsOk s.c = true
  · rw [if_pos hc]
    have HC : Hid (cellsOk s.c = true) := hc
    clear hc
    go_enter Tryd.func15, Tryd.ntmps15
    go_wp2_with (first | (go_at_call 10; refine hk.mono ?_; rintro ev w1 ⟨rfl, b1⟩; clear hk; obtain ⟨c0, c1, c2, c3, bw⟩ := st_box b1; clear b1 c2; have hcf := containsOut s.c w.heap.size 1 6 w1 c3 c1; rw [HC.out] at hcf; clear c1) | (go_at_call 28; refine hcf.mono ?_; rintro ev w2 ⟨rfl, b2⟩; clear hcf))
    go_ret
    exact ⟨rfl, bw.trans (b2.mono bw.size)⟩
  · have hc' : cellsOk s.c = false := by simpa using hc
    rw [if_neg hc]
    have HC : Hid (cellsOk s.c = false) := hc'
    clear hc hc'
    go_enter Tryd.func15, Tryd.ntmps15
    go_wp2_with (first | (go_at_call 10; refine hk.mono ?_; rintro ev w1 ⟨rfl, b1⟩; clear hk; obtain ⟨c0, c1, c2, c3, bw⟩ := st_box b1; clear b1 c2; have hcf := containsOut s.c w.heap.size 1 6 w1 c3 c1; rw [HC.out] at hcf; clear c1) | (go_at_call 28; refine hcf.mono ?_; rintro ev w2 ⟨rfl, b2⟩; clear hcf))
    go_ret
    exact ⟨rfl, bw.trans (b2.mono bw.size)⟩

theorem rcheck_any (l : List O3) (v : Value) (s : St) (w : World) (hf : Forms w) (hl : Ops w v l) :
    Calls Tryd.prog 15 #[v, stV s] w fun ev w' => ev = .returned (errV (rchk l s)) ∧ Below w.heap.size w w' := by
  have b0 : Below w.heap.size w (w.alloc (.cells #[.int .i64 s.p, .int .i64 (s.c 0), .int .i64 (s.c 1), .int .i64 (s.c 2), .int .i64 (s.c 3), .int .i64 (s.c 4), .int .i64 (s.c 5), .bool s.f] 40)) := (Below.refl _ _).alloc (Nat.le_refl _) _
  have hk := check_any v l (w.alloc (.cells #[.int .i64 s.p, .int .i64 (s.c 0), .int .i64 (s.c 1), .int .i64 (s.c 2), .int .i64 (s.c 3), .int .i64 (s.c 4), .int .i64 (s.c 5), .bool s.f] 40)) (hf.all b0) (hl.all b0)
  simp only [World.size_alloc] at hk
  obtain ⟨ao, cap, rfl⟩ := hl.form
  by_cases h : (chk l).2 = 0
  · obtain ⟨h0, h1, h2⟩ := chk_zero h
    rw [h] at hk
    by_cases hp : 0 ≤ s.p ∧ s.p < l.length
    · refine (rcheck_cells ao l.length cap _ s w hp hk).mono fun _ _ ⟨e, hb⟩ => ⟨?_, hb⟩
      rw [e]
      simp only [rchk, h, if_true, stOk, hp, and_self, decide_true, Bool.true_and]
    · refine (rcheck_place ao l.length cap _ s w hp hk).mono fun _ _ ⟨e, hb⟩ => ⟨?_, hb⟩
      rw [e]
      simp only [rchk, h, if_true, stOk, hp, decide_false, Bool.false_and]
      rfl
  · refine (rcheck_code ao l.length cap _ _ s w h hk).mono fun _ _ ⟨e, hb⟩ => ⟨?_, hb⟩
    rw [e]
    simp only [rchk, h, if_false]
end Go.Proofs.YthbcbdedmillaaaDoor

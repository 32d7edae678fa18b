/-
  RoomBase, RoomParts, RoomNew, RoomCheck: joined into one text.
-/
import Derived.Test.YteoemcekkcnplafGreatDoorCheck
import Derived.Test.YteoemcekkcnplafGreatDoorJf3
namespace Go.Proofs.YteoemcekkcnplafGreatDoor
open Go.RowKit

/-- The cells of a room as a value. -/
def cellsV (c : Nat → Int) : Value := .agg #[.int .i64 (c 0), .int .i64 (c 1), .int .i64 (c 2), .int .i64 (c 3), .int .i64 (c 4), .int .i64 (c 5)]
/-- A state as a value. -/
def stV (s : St) : Value := .agg #[.int .i64 s.p, .int .i64 (s.c 0), .int .i64 (s.c 1), .int .i64 (s.c 2), .int .i64 (s.c 3), .int .i64 (s.c 4), .int .i64 (s.c 5), .bool s.f]

def outB (n : Int) : Bool := decide (n < 0 ∨ 999 < n)
set_option maxRecDepth 100000 in
set_option maxHeartbeats 1000000 in
theorem outside_any (n : Int) (w : World) : Calls Tryz.prog 74 #[.int .i64 n] w fun e w' => e = .returned (.bool (outB n)) ∧ Below w.heap.size w w' := by
  by_cases h : n < 0
  · go_enter Tryz.func74, Tryz.ntmps74
    go_wp2
    go_ret
    exact ⟨ret_bool (by simp [outB, h]), Below.refl _ _⟩
  · have h' : decide (n < 0) = false := by simpa using h
    by_cases h2 : 1000 ≤ n
    · go_enter Tryz.func74, Tryz.ntmps74
      go_wp2
      go_ret
      exact ⟨ret_bool (by simp [outB]; omega), Below.refl _ _⟩
    · go_enter Tryz.func74, Tryz.ntmps74
      go_wp2
      go_ret
      exact ⟨ret_bool (by simp [outB]; omega), Below.refl _ _⟩

set_option maxRecDepth 100000 in
set_option maxHeartbeats 2000000 in
theorem indexOut (c : Nat → Int) (b off cap : Nat) (w : World) (hlt : b < w.heap.size) (hc : ∀ i : Nat, i < 6 → w.cell? ⟨b, off + i, none⟩ = some (.int .i64 (c i))) :
    Calls Tryz.prog 36 #[.slice (some ⟨b, off, none⟩) 6 cap, .func (.func 74) #[] #[]] w fun e w' =>
      (∃ r : Int, e = .returned (.int .i64 r) ∧ decide (0 ≤ r) = !cellsOk c) ∧ Below w.heap.size w w' := by
  go_enter Tryz.func36, Tryz.ntmps36
  go_wp2
  go_loopw [8] (fun i wr => ∃ k : Nat, k ≤ 6 ∧ i = .int .i64 k ∧ (∀ j : Nat, j < k → outB (c j) = false) ∧ Below w.heap.size w wr) (fun i _ => 6 - (intOf i).toNat)
  case atStart => exact ⟨0, Nat.zero_le _, rfl, fun j hj => by omega, Below.refl _ _⟩
  case round =>
    obtain ⟨k, hk, rfl, hall, hb⟩ := hrel
    have Hall : Hid (∀ j : Nat, j < k → outB (c j) = false) := hall
    clear hall
    by_cases hkl : k < 6
    · have d0 : wr.cell? ⟨b, off + k, none⟩ = some (.int .i64 (c k)) := (hb.cell (p := ⟨b, _, none⟩) hlt).trans (hc k hkl)
      go_wp2_with (go_at_call 74; refine (outside_any (c k) _).mono ?_)
      rintro e w1 ⟨rfl, b1⟩
      have hb1 := hb.trans (b1.mono hb.size)
      by_cases hok : outB (c k) = false
      · go_wp2
        go_roundw
        case rel =>
          refine ⟨k + 1, by omega, by go_num, fun j hj => ?_, hb1⟩
          by_cases hjk : j < k
          · exact Hall.out j hjk
          · obtain rfl : j = k := by omega
            exact hok
        case measure => simp [intOf]; omega
      · have hok' : outB (c k) = true := by simpa using hok
        have HF : Hid (cellsOk c = false) := by
          show _ = _
          apply cellsOk_no
          intro h
          have := h k hkl
          simp [outB] at hok'
          omega
        go_wp2
        go_ret
        exact ⟨⟨_, rfl, by rw [HF.out]; simp⟩, hb1⟩
    · have HF : Hid (cellsOk c = true) := by
        show _ = _
        rw [cellsOk_iff]
        intro i hi
        have := Hall.out i (by omega)
        simp [outB] at this
        omega
      clear hc
      go_wp2
      go_ret
      exact ⟨⟨_, rfl, by rw [HF.out]; simp⟩, hb⟩

set_option maxRecDepth 100000 in
set_option maxHeartbeats 2000000 in
theorem containsOut (c : Nat → Int) (b off cap : Nat) (w : World) (hlt : b < w.heap.size) (hc : ∀ i : Nat, i < 6 → w.cell? ⟨b, off + i, none⟩ = some (.int .i64 (c i))) :
    Calls Tryz.prog 20 #[.slice (some ⟨b, off, none⟩) 6 cap, .func (.func 74) #[] #[]] w fun e w' =>
      e = .returned (.bool (!cellsOk c)) ∧ Below w.heap.size w w' := by
  have h := indexOut c b off cap w hlt hc
  clear hc
  go_enter Tryz.func20, Tryz.ntmps20
  go_wp2_with (go_at_call 36; refine h.mono ?_; rintro e w1 ⟨⟨r, rfl, hr⟩, bb⟩; clear h; have HR : Hid (decide (0 ≤ r) = !cellsOk c) := hr; clear hr)
  go_ret
  exact ⟨ret_bool HR.out, bb⟩
end Go.Proofs.YteoemcekkcnplafGreatDoor
namespace Go.Proofs.YteoemcekkcnplafGreatDoor
open Go.RowKit

set_option maxRecDepth 100000 in
set_option maxHeartbeats 1000000 in
theorem sent_no (n a b : Int) (c : Nat → Int) (w : World) (h : n ≠ 8) :
    Calls Tryz.prog 80 #[.agg #[.int .i64 n, .int .i64 a, .int .i64 b], .agg #[.int .i64 (c 0), .int .i64 (c 1), .int .i64 (c 2), .int .i64 (c 3), .int .i64 (c 4), .int .i64 (c 5)]] w fun e w' => e = .returned (.int .i64 (-1)) ∧ Below w.heap.size w w' := by
  have h' : (n == 8) = false := by simpa using h
  go_enter Tryz.func80, Tryz.ntmps80
  go_wp2
  go_ret
  exact ⟨rfl, ((Below.refl _ _).alloc (Nat.le_refl _) _).alloc (by simp) _⟩
set_option maxRecDepth 100000 in
set_option maxHeartbeats 1000000 in
theorem sent_yes (a : Nat) (b : Int) (c : Nat → Int) (w : World) (ha : a ≤ 5) :
    Calls Tryz.prog 80 #[.agg #[.int .i64 8, .int .i64 a, .int .i64 b], .agg #[.int .i64 (c 0), .int .i64 (c 1), .int .i64 (c 2), .int .i64 (c 3), .int .i64 (c 4), .int .i64 (c 5)]] w fun e w' => e = .returned (.int .i64 (c a)) ∧ Below w.heap.size w w' := by
  have h : a = 0 ∨ a = 1 ∨ a = 2 ∨ a = 3 ∨ a = 4 ∨ a = 5 := by omega
  rcases h with rfl | rfl | rfl | rfl | rfl | rfl
  all_goals
    go_enter Tryz.func80, Tryz.ntmps80
    go_wp2
    go_ret
    exact ⟨rfl, ((Below.refl _ _).alloc (Nat.le_refl _) _).alloc (by simp) _⟩
end Go.Proofs.YteoemcekkcnplafGreatDoor
namespace Go.Proofs.YteoemcekkcnplafGreatDoor
open Go.RowKit

set_option maxRecDepth 100000 in
set_option maxHeartbeats 1000000 in
theorem new_any (w : World) : Calls Tryz.prog 34 #[] w fun e w' => e = .returned (stV ⟨0, fun _ => 0, false⟩) ∧ Below w.heap.size w w' := by
  go_enter Tryz.func34, Tryz.ntmps34
  go_wp2
  refine bodyPost_ret (v := stV ⟨0, fun _ => 0, false⟩) ?_ rfl ⟨rfl, ?_⟩
  · simp [results, Tryz.results34, go_sem, stV]
  · repeat' first | exact Below.refl _ _ | refine Below.drew ?_ | refine Below.alloc ?_ (by simp <;> omega) _ | refine Below.setCell ?_ (by simp <;> omega) _
end Go.Proofs.YteoemcekkcnplafGreatDoor
namespace Go.Proofs.YteoemcekkcnplafGreatDoor
open Go.RowKit

/-- The box of a state, in a later world. -/
theorem st_box {w w1 : World} {s : St} (b1 : Below (w.heap.size + 1) (w.alloc (.cells #[.int .i64 s.p, .int .i64 (s.c 0), .int .i64 (s.c 1), .int .i64 (s.c 2), .int .i64 (s.c 3), .int .i64 (s.c 4), .int .i64 (s.c 5), .bool s.f] 47)) w1) :
    w1.cell? ⟨w.heap.size, 0, none⟩ = some (.int .i64 s.p) ∧ (∀ i : Nat, i < 6 → w1.cell? ⟨w.heap.size, 1 + i, none⟩ = some (.int .i64 (s.c i))) ∧ w1.cell? ⟨w.heap.size, 7, none⟩ = some (.bool s.f) ∧ w.heap.size < w1.heap.size ∧ Below w.heap.size w w1 :=
  ⟨(b1.cell (p := ⟨w.heap.size, 0, none⟩) (by simp)).trans (by simp), six.2 ⟨(b1.cell (p := ⟨w.heap.size, 1, none⟩) (by simp)).trans (by simp), (b1.cell (p := ⟨w.heap.size, 2, none⟩) (by simp)).trans (by simp), (b1.cell (p := ⟨w.heap.size, 3, none⟩) (by simp)).trans (by simp), (b1.cell (p := ⟨w.heap.size, 4, none⟩) (by simp)).trans (by simp), (b1.cell (p := ⟨w.heap.size, 5, none⟩) (by simp)).trans (by simp), (b1.cell (p := ⟨w.heap.size, 6, none⟩) (by simp)).trans (by simp)⟩, (b1.cell (p := ⟨w.heap.size, 7, none⟩) (by simp)).trans (by simp),
   by have := b1.size; simp at this; omega, ((Below.refl _ w).alloc (Nat.le_refl _) _).trans (b1.mono (by omega))⟩

set_option maxRecDepth 100000 in
set_option maxHeartbeats 4000000 in
theorem rcheck_code (ao : Option Addr) (n cap : Nat) (k e : Int) (s : St) (w : World) (he : e ≠ 0)
    (hk : Calls Tryz.prog 67 #[.slice ao n cap] (w.alloc (.cells #[.int .i64 s.p, .int .i64 (s.c 0), .int .i64 (s.c 1), .int .i64 (s.c 2), .int .i64 (s.c 3), .int .i64 (s.c 4), .int .i64 (s.c 5), .bool s.f] 47)) fun ev w' => ev = .returned (.tuple #[.int .i64 k, errV e]) ∧ Below (w.heap.size + 1) (w.alloc (.cells #[.int .i64 s.p, .int .i64 (s.c 0), .int .i64 (s.c 1), .int .i64 (s.c 2), .int .i64 (s.c 3), .int .i64 (s.c 4), .int .i64 (s.c 5), .bool s.f] 47)) w') :
    Calls Tryz.prog 52 #[.slice ao n cap, stV s] w fun ev w' => ev = .returned (errV e) ∧ Below w.heap.size w w' := by
  rw [show errV e = .iface 70 (.int .i64 e) from by simp [errV, he]] at hk ⊢
  unfold stV
  go_enter Tryz.func52, Tryz.ntmps52
  go_wp2_with (go_at_call 67; refine hk.mono ?_; rintro ev w1 ⟨rfl, b1⟩; clear hk; obtain ⟨c0, c1, c2, c3, bw⟩ := st_box b1; clear b1 c0 c1 c2)
  go_ret
  exact ⟨rfl, bw⟩

set_option maxRecDepth 100000 in
set_option maxHeartbeats 4000000 in
theorem rcheck_place (ao : Option Addr) (n cap : Nat) (k : Int) (s : St) (w : World) (hs : ¬ (0 ≤ s.p ∧ s.p < n))
    (hk : Calls Tryz.prog 67 #[.slice ao n cap] (w.alloc (.cells #[.int .i64 s.p, .int .i64 (s.c 0), .int .i64 (s.c 1), .int .i64 (s.c 2), .int .i64 (s.c 3), .int .i64 (s.c 4), .int .i64 (s.c 5), .bool s.f] 47)) fun ev w' => ev = .returned (.tuple #[.int .i64 k, .nilIface]) ∧ Below (w.heap.size + 1) (w.alloc (.cells #[.int .i64 s.p, .int .i64 (s.c 0), .int .i64 (s.c 1), .int .i64 (s.c 2), .int .i64 (s.c 3), .int .i64 (s.c 4), .int .i64 (s.c 5), .bool s.f] 47)) w') :
    Calls Tryz.prog 52 #[.slice ao n cap, stV s] w fun ev w' => ev = .returned (errV 1) ∧ Below w.heap.size w w' := by
  unfold stV
  by_cases h0 : s.p < 0
  · go_enter Tryz.func52, Tryz.ntmps52
    go_wp2_with (go_at_call 67; refine hk.mono ?_; rintro ev w1 ⟨rfl, b1⟩; clear hk; obtain ⟨c0, c1, c2, c3, bw⟩ := st_box b1; clear b1 c1 c2)
    go_ret
    exact ⟨rfl, bw⟩
  · have h0' : decide (s.p < 0) = false := by simpa using h0
    have h1 : (n : Int) ≤ s.p := by omega
    go_enter Tryz.func52, Tryz.ntmps52
    go_wp2_with (go_at_call 67; refine hk.mono ?_; rintro ev w1 ⟨rfl, b1⟩; clear hk; obtain ⟨c0, c1, c2, c3, bw⟩ := st_box b1; clear b1 c1 c2)
    go_ret
    exact ⟨rfl, bw⟩
set_option maxRecDepth 100000 in
set_option maxHeartbeats 4000000 in
theorem rcheck_cells (ao : Option Addr) (n cap : Nat) (k : Int) (s : St) (w : World) (hs : 0 ≤ s.p ∧ s.p < n)
    (hk : Calls Tryz.prog 67 #[.slice ao n cap] (w.alloc (.cells #[.int .i64 s.p, .int .i64 (s.c 0), .int .i64 (s.c 1), .int .i64 (s.c 2), .int .i64 (s.c 3), .int .i64 (s.c 4), .int .i64 (s.c 5), .bool s.f] 47)) fun ev w' => ev = .returned (.tuple #[.int .i64 k, .nilIface]) ∧ Below (w.heap.size + 1) (w.alloc (.cells #[.int .i64 s.p, .int .i64 (s.c 0), .int .i64 (s.c 1), .int .i64 (s.c 2), .int .i64 (s.c 3), .int .i64 (s.c 4), .int .i64 (s.c 5), .bool s.f] 47)) w') :
    Calls Tryz.prog 52 #[.slice ao n cap, stV s] w fun ev w' => ev = .returned (errV (if cellsOk s.c = true then 0 else 1)) ∧ Below w.heap.size w w' := by
  unfold stV
  have h0 : decide (s.p < 0) = false := by simp; omega
  have h1 : decide ((n : Int) ≤ s.p) = false := by simp; omega
  obtain ⟨h2, h3⟩ := hs
  by_cases hc : cellsOk s.c = true
  · rw [if_pos hc]
    have HC : Hid (cellsOk s.c = true) := hc
    clear hc
    go_enter Tryz.func52, Tryz.ntmps52
    go_wp2_with (first | (go_at_call 67; refine hk.mono ?_; rintro ev w1 ⟨rfl, b1⟩; clear hk; obtain ⟨c0, c1, c2, c3, bw⟩ := st_box b1; clear b1 c2; have hcf := containsOut s.c w.heap.size 1 6 w1 c3 c1; rw [HC.out] at hcf; clear c1) | (go_at_call 20; refine hcf.mono ?_; rintro ev w2 ⟨rfl, b2⟩; clear hcf))
    go_ret
    exact ⟨rfl, bw.trans (b2.mono bw.size)⟩
  · have hc' : cellsOk s.c = false := by simpa using hc
    rw [if_neg hc]
    have HC : Hid (cellsOk s.c = false) := hc'
    clear hc hc'
    go_enter Tryz.func52, Tryz.ntmps52
    go_wp2_with (first | (go_at_call 67; refine hk.mono ?_; rintro ev w1 ⟨rfl, b1⟩; clear hk; obtain ⟨c0, c1, c2, c3, bw⟩ := st_box b1; clear b1 c2; have hcf := containsOut s.c w.heap.size 1 6 w1 c3 c1; rw [HC.out] at hcf; clear c1) | (go_at_call 20; refine hcf.mono ?_; rintro ev w2 ⟨rfl, b2⟩; clear hcf))
    go_ret
    exact ⟨rfl, bw.trans (b2.mono bw.size)⟩

theorem rcheck_any (l : List O3) (v : Value) (s : St) (w : World) (hf : Forms w) (hl : Ops w v l) :
    Calls Tryz.prog 52 #[v, stV s] w fun ev w' => ev = .returned (errV (rchk l s)) ∧ Below w.heap.size w w' := by
  have b0 : Below w.heap.size w (w.alloc (.cells #[.int .i64 s.p, .int .i64 (s.c 0), .int .i64 (s.c 1), .int .i64 (s.c 2), .int .i64 (s.c 3), .int .i64 (s.c 4), .int .i64 (s.c 5), .bool s.f] 47)) := (Below.refl _ _).alloc (Nat.le_refl _) _
  have hk := check_any v l (w.alloc (.cells #[.int .i64 s.p, .int .i64 (s.c 0), .int .i64 (s.c 1), .int .i64 (s.c 2), .int .i64 (s.c 3), .int .i64 (s.c 4), .int .i64 (s.c 5), .bool s.f] 47)) (hf.all b0) (hl.all b0)
  simp only [World.size_alloc] at hk
  obtain ⟨ao, cap, rfl⟩ := hl.form
  by_cases h : (chk l).2 = 0
  · obtain ⟨h0, h1, h2⟩ := chk_zero h
    rw [h] at hk
    by_cases hp : 0 ≤ s.p ∧ s.p < l.length
    · refine (rcheck_cells ao l.length cap _ s w hp hk).mono fun _ _ ⟨e, hb⟩ => ⟨?_, hb⟩
      rw [e]
      simp only [rchk, h, if_true, stOk, hp, and_self, decide_true, Bool.true_and]
    · refine (rcheck_place ao l.length cap _ s w hp hk).mono fun _ _ ⟨e, hb⟩ => ⟨?_, hb⟩
      rw [e]
      simp only [rchk, h, if_true, stOk, hp, decide_false, Bool.false_and]
      rfl
  · refine (rcheck_code ao l.length cap _ _ s w h hk).mono fun _ _ ⟨e, hb⟩ => ⟨?_, hb⟩
    rw [e]
    simp only [rchk, h, if_false]
end Go.Proofs.YteoemcekkcnplafGreatDoor

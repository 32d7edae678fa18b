/-
  RoomNew, RoomCheck, Law, Trod, RefPut: joined into one text.
-/
import Derived.Test.YtfconbblnmbnpaeGreatDoorJa4
import Derived.Test.YtfconbblnmbnpaeGreatDoorRows
import Derived.ProofKit
import Derived.LaidMore
import Derived.OpenShut
import Derived.Carry
import Derived.Stop.Joined
import Derived.Test.YtfconbblnmbnpaeGreatDoorJa2
namespace Go.Proofs.YtfconbblnmbnpaeGreatDoor
open Go.RowKit

set_option maxRecDepth 100000 in
set_option maxHeartbeats 1000000 in
theorem new_any (w : World) : Calls Tryz.prog 59 #[] w fun e w' => e = .returned (stV ⟨0, fun _ => 0, false⟩) ∧ Below w.heap.size w w' := by
  go_enter Tryz.func59, Tryz.ntmps59
  go_wp2
  refine bodyPost_ret (v := stV ⟨0, fun _ => 0, false⟩) ?_ rfl ⟨rfl, ?_⟩
  · simp [results, Tryz.results59, go_sem, stV]
  · repeat' first | exact Below.refl _ _ | refine Below.drew ?_ | refine Below.alloc ?_ (by simp <;> omega) _ | refine Below.setCell ?_ (by simp <;> omega) _
end Go.Proofs.YtfconbblnmbnpaeGreatDoor
namespace Go.Proofs.YtfconbblnmbnpaeGreatDoor
open Go.RowKit

/-- The box of a state, in a later world. -/
theorem st_box {w w1 : World} {s : St} (b1 : Below (w.heap.size + 1) (w.alloc (.cells #[.int .i64 s.p, .int .i64 (s.c 0), .int .i64 (s.c 1), .int .i64 (s.c 2), .int .i64 (s.c 3), .int .i64 (s.c 4), .int .i64 (s.c 5), .bool s.f] 39)) w1) :
    w1.cell? ⟨w.heap.size, 0, none⟩ = some (.int .i64 s.p) ∧ (∀ i : Nat, i < 6 → w1.cell? ⟨w.heap.size, 1 + i, none⟩ = some (.int .i64 (s.c i))) ∧ w1.cell? ⟨w.heap.size, 7, none⟩ = some (.bool s.f) ∧ w.heap.size < w1.heap.size ∧ Below w.heap.size w w1 :=
  ⟨(b1.cell (p := ⟨w.heap.size, 0, none⟩) (by simp)).trans (by simp), six.2 ⟨(b1.cell (p := ⟨w.heap.size, 1, none⟩) (by simp)).trans (by simp), (b1.cell (p := ⟨w.heap.size, 2, none⟩) (by simp)).trans (by simp), (b1.cell (p := ⟨w.heap.size, 3, none⟩) (by simp)).trans (by simp), (b1.cell (p := ⟨w.heap.size, 4, none⟩) (by simp)).trans (by simp), (b1.cell (p := ⟨w.heap.size, 5, none⟩) (by simp)).trans (by simp), (b1.cell (p := ⟨w.heap.size, 6, none⟩) (by simp)).trans (by simp)⟩, (b1.cell (p := ⟨w.heap.size, 7, none⟩) (by simp)).trans (by simp),
   by have := b1.size; simp at this; omega, ((Below.refl _ w).alloc (Nat.le_refl _) _).trans (b1.mono (by omega))⟩

set_option maxRecDepth 100000 in
set_option maxHeartbeats 4000000 in
theorem rcheck_code (ao : Option Addr) (n cap : Nat) (k e : Int) (s : St) (w : World) (he : e ≠ 0)
    (hk : Calls Tryz.prog 48 #[.slice ao n cap] (w.alloc (.cells #[.int .i64 s.p, .int .i64 (s.c 0), .int .i64 (s.c 1), .int .i64 (s.c 2), .int .i64 (s.c 3), .int .i64 (s.c 4), .int .i64 (s.c 5), .bool s.f] 39)) fun ev w' => ev = .returned (.tuple #[.int .i64 k, errV e]) ∧ Below (w.heap.size + 1) (w.alloc (.cells #[.int .i64 s.p, .int .i64 (s.c 0), .int .i64 (s.c 1), .int .i64 (s.c 2), .int .i64 (s.c 3), .int .i64 (s.c 4), .int .i64 (s.c 5), .bool s.f] 39)) w') :
    Calls Tryz.prog 88 #[.slice ao n cap, stV s] w fun ev w' => ev = .returned (errV e) ∧ Below w.heap.size w w' := by
  rw [show errV e = .iface 60 (.int .i64 e) from by simp [errV, he]] at hk ⊢
  unfold stV
  go_enter Tryz.func88, Tryz.ntmps88
  go_wp2_with (go_at_call 48; refine hk.mono ?_; rintro ev w1 ⟨rfl, b1⟩; clear hk; obtain ⟨c0, c1, c2, c3, bw⟩ := st_box b1; clear b1 c0 c1 c2)
  go_ret
  exact ⟨rfl, bw⟩

set_option maxRecDepth 100000 in
set_option maxHeartbeats 4000000 in
theorem rcheck_place (ao : Option Addr) (n cap : Nat) (k : Int) (s : St) (w : World) (hs : ¬ (0 ≤ s.p ∧ s.p < n))
    (hk : Calls Tryz.prog 48 #[.slice ao n cap] (w.alloc (.cells #[.int .i64 s.p, .int .i64 (s.c 0), .int .i64 (s.c 1), .int .i64 (s.c 2), .int .i64 (s.c 3), .int .i64 (s.c 4), .int .i64 (s.c 5), .bool s.f] 39)) fun ev w' => ev = .returned (.tuple #[.int .i64 k, .nilIface]) ∧ Below (w.heap.size + 1) (w.alloc (.cells #[.int .i64 s.p, .int .i64 (s.c 0), .int .i64 (s.c 1), .int .i64 (s.c 2), .int .i64 (s.c 3), .int .i64 (s.c 4), .int .i64 (s.c 5), .bool s.f] 39)) w') :
    Calls Tryz.prog 88 #[.slice ao n cap, stV s] w fun ev w' => ev = .returned (errV 1) ∧ Below w.heap.size w w' := by
  unfold stV
  by_cases h0 : s.p < 0
  · go_enter Tryz.func88, Tryz.ntmps88
    go_wp2_with (go_at_call 48; refine hk.mono ?_; rintro ev w1 ⟨rfl, b1⟩; clear hk; obtain ⟨c0, c1, c2, c3, bw⟩ := st_box b1; clear b1 c1 c2)
    go_ret
    exact ⟨rfl, bw⟩
  · have h0' : decide (s.p < 0) = false := by simpa using h0
    have h1 : (n : Int) ≤ s.p := by omega
    go_enter Tryz.func88, Tryz.ntmps88
    go_wp2_with (go_at_call 48; refine hk.mono ?_; rintro ev w1 ⟨rfl, b1⟩; clear hk; obtain ⟨c0, c1, c2, c3, bw⟩ := st_box b1; clear b1 c1 c2)
    go_ret
    exact ⟨rfl, bw⟩
set_option maxRecDepth 100000 in
set_option maxHeartbeats 4000000 in
theorem rcheck_cells (ao : Option Addr) (n cap : Nat) (k : Int) (s : St) (w : World) (hs : 0 ≤ s.p ∧ s.p < n)
    (hk : Calls Tryz.prog 48 #[.slice ao n cap] (w.alloc (.cells #[.int .i64 s.p, .int .i64 (s.c 0), .int .i64 (s.c 1), .int .i64 (s.c 2), .int .i64 (s.c 3), .int .i64 (s.c 4), .int .i64 (s.c 5), .bool s.f] 39)) fun ev w' => ev = .returned (.tuple #[.int .i64 k, .nilIface]) ∧ Below (w.heap.size + 1) (w.alloc (.cells #[.int .i64 s.p, .int .i64 (s.c 0), .int .i64 (s.c 1), .int .i64 (s.c 2), .int .i64 (s.c 3), .int .i64 (s.c 4), .int .i64 (s.c 5), .bool s.f] 39)) w') :
    Calls Tryz.prog 88 #[.slice ao n cap, stV s] w fun ev w' => ev = .returned (errV (if cellsOk s.c = true then 0 else 1)) ∧ Below w.heap.size w w' := by
  unfold stV
  have h0 : decide (s.p < 0) = false := by simp; omega
  have h1 : decide ((n : Int) ≤ s.p) = false := by simp; omega
  obtain ⟨h2, h3⟩ := hs
  by_cases hc : cellsOk s.c = true
  · rw [if_pos hc]
    have HC : Hid (cellsOk s.c = true) := hc
    clear hc
    go_enter Tryz.func88, Tryz.ntmps88
    go_wp2_with (first | (go_at_call 48; refine hk.mono ?_; rintro ev w1 ⟨rfl, b1⟩; clear hk; obtain ⟨c0, c1, c2, c3, bw⟩ := st_box b1; clear b1 c2; have hcf := containsOut s.c w.heap.size 1 6 w1 c3 c1; rw [HC.out] at hcf; clear c1) | (go_at_call 75; refine hcf.mono ?_; rintro ev w2 ⟨rfl, b2⟩; clear hcf))
    go_ret
    exact ⟨rfl, bw.trans (b2.mono bw.size)⟩
  · have hc' : cellsOk s.c = false := by simpa using hc
    rw [if_neg hc]
    have HC : Hid (cellsOk s.c = false) := hc'
    clear hc hc'
    go_enter Tryz.func88, Tryz.ntmps88
    go_wp2_with (first | (go_at_call 48; refine hk.mono ?_; rintro ev w1 ⟨rfl, b1⟩; clear hk; obtain ⟨c0, c1, c2, c3, bw⟩ := st_box b1; clear b1 c2; have hcf := containsOut s.c w.heap.size 1 6 w1 c3 c1; rw [HC.out] at hcf; clear c1) | (go_at_call 75; refine hcf.mono ?_; rintro ev w2 ⟨rfl, b2⟩; clear hcf))
    go_ret
    exact ⟨rfl, bw.trans (b2.mono bw.size)⟩

theorem rcheck_any (l : List O3) (v : Value) (s : St) (w : World) (hf : Forms w) (hl : Ops w v l) :
    Calls Tryz.prog 88 #[v, stV s] w fun ev w' => ev = .returned (errV (rchk l s)) ∧ Below w.heap.size w w' := by
  have b0 : Below w.heap.size w (w.alloc (.cells #[.int .i64 s.p, .int .i64 (s.c 0), .int .i64 (s.c 1), .int .i64 (s.c 2), .int .i64 (s.c 3), .int .i64 (s.c 4), .int .i64 (s.c 5), .bool s.f] 39)) := (Below.refl _ _).alloc (Nat.le_refl _) _
  have hk := check_any v l (w.alloc (.cells #[.int .i64 s.p, .int .i64 (s.c 0), .int .i64 (s.c 1), .int .i64 (s.c 2), .int .i64 (s.c 3), .int .i64 (s.c 4), .int .i64 (s.c 5), .bool s.f] 39)) (hf.all b0) (hl.all b0)
  simp only [World.size_alloc] at hk
  obtain ⟨ao, cap, rfl⟩ := hl.form
  by_cases h : (chk l).2 = 0
  · obtain ⟨h0, h1, h2⟩ := chk_zero h
    rw [h] at hk
    by_cases hp : 0 ≤ s.p ∧ s.p < l.length
    · refine (rcheck_cells ao l.length cap _ s w hp hk).mono fun _ _ ⟨e, hb⟩ => ⟨?_, hb⟩
      rw [e]
      simp only [rchk, h, if_true, stOk, hp, and_self, decide_true, Bool.true_and]
    · refine (rcheck_place ao l.length cap _ s w hp hk).mono fun _ _ ⟨e, hb⟩ => ⟨?_, hb⟩
      rw [e]
      simp only [rchk, h, if_true, stOk, hp, decide_false, Bool.false_and]
      rfl
  · refine (rcheck_code ao l.length cap _ _ s w h hk).mono fun _ _ ⟨e, hb⟩ => ⟨?_, hb⟩
    rw [e]
    simp only [rchk, h, if_false]
end Go.Proofs.YtfconbblnmbnpaeGreatDoor
namespace Go.Proofs.YtfconbblnmbnpaeGreatDoor
open Go.ChangeShapes Go.WideShapes Go.ChangeAt Go.WideElems Go.RowKit

theorem own : ownKnob Tryz.prog.godebug = none := by kernel_rfl
theorem laidOut : laidOutB Tryz.prog = true := by kernel_rfl
theorem trodAll_below {H : Type} {enc : TypeId × Value → H} {P : Program} (hlo : laidOutB P = true) {W W' : World} (hb : Below W.heap.size W W') (ts : List TypeId) : ∀ {vs : List Value} {ds : List (DataW H)} {ps : List MemPlace},
    (ts.all fun t => P.readableRec t && decide (t < P.types.size)) = true → DataW.TrodAll enc P W 0 (fun _ => true) true ts vs ds ps → (∀ x ∈ ps, x.block < W.heap.size) →
    DataW.TrodAll enc P W' 0 (fun b => decide (b < W.heap.size)) true ts vs ds ps := by
  induction ts with
  | nil =>
    intro vs ds ps _ h _
    cases vs <;> cases ds <;> exact h
  | cons t ts ih =>
    intro vs ds ps ht h hl
    cases vs with
    | nil => exact h.elim
    | cons v vs =>
      cases ds with
      | nil => exact h.elim
      | cons d ds =>
        obtain ⟨p, q, h1, h2, rfl⟩ := h
        simp only [List.all_cons, Bool.and_eq_true, decide_eq_true_eq] at ht
        exact ⟨p, q, Below.trod hlo ht.1.1 ht.1.2 h1 hb (fun x hx => hl x (by simp [hx])), ih (by simpa using ht.2) h2 (fun x hx => hl x (by simp [hx])), rfl⟩

theorem law_post {H : Type} {enc : TypeId × Value → H} {f : Func} {s : ChangeSpec} {W W' : World} {args : Array Value} {ds gs : List (DataW H)} {before : List MemPlace}
    (hf : f.resultTypes = #[4]) (hts : (f.params.toList.all fun t => Tryz.prog.readableRec t && decide (t < Tryz.prog.types.size)) = true) (hsv : s.vars = [])
    (hW : DataW.Whole enc Tryz.prog f.params.toList s.vars false W args.toList ds gs before) (hs : s.fn H (ds ++ gs) = { results := [.lit (.bool true)], args := ds }) (hb : Below W.heap.size W W') :
    s.post enc Tryz.prog f false true false false W args (.bool true) W' := by
  have hW' := hW
  obtain ⟨p, q, hA, hV, rfl, hfz, hnd⟩ := hW
  have hlt : ∀ x ∈ p, x.block < W.heap.size := fun x hx => by simpa using hW'.lt x (by simp [hx])
  refine ⟨ds, gs, p ++ q, [], p, [], hW', ?_, ?_, ?_, hb.frame _, fun h => by cases h⟩
  · rw [hs, hf]
    exact trodAll_cons_mk (shut_bool Tryz.underlying4 _) trodAll_mk0
  · rw [hs]
    exact trodAll_below laidOut hb _ hts hA hlt
  · rw [hs, hsv]
    rfl
end Go.Proofs.YtfconbblnmbnpaeGreatDoor
namespace Go.Proofs.YtfconbblnmbnpaeGreatDoor
open Go.ChangeShapes

theorem trodAll_four {H : Type} {enc : TypeId × Value → H} {P : Program} {w : World} {base : Nat} {spare : Nat → Bool} {held : Bool} {t0 t1 t2 t3 : TypeId} {args : Array Value} {ds : List (DataW H)} {ps : List MemPlace} (h : DataW.TrodAll enc P w base spare held [t0, t1, t2, t3] args.toList ds ps) :
    ∃ v0 v1 v2 v3 d0 d1 d2 d3 p0 p1 p2 p3, args = #[v0, v1, v2, v3] ∧ ds = [d0, d1, d2, d3] ∧ DataW.Trod enc P w base spare held t0 v0 d0 p0 ∧ DataW.Trod enc P w base spare held t1 v1 d1 p1 ∧ DataW.Trod enc P w base spare held t2 v2 d2 p2 ∧ DataW.Trod enc P w base spare held t3 v3 d3 p3 := by
  obtain ⟨v0, vs0, d0, ds0, p0, q0, hargs, rfl, rfl, h0, r0⟩ := trodAll_cons h
  obtain ⟨v1, vs1, d1, ds1, p1, q1, rfl, rfl, rfl, h1, r1⟩ := trodAll_cons r0
  obtain ⟨v2, vs2, d2, ds2, p2, q2, rfl, rfl, rfl, h2, r2⟩ := trodAll_cons r1
  obtain ⟨v3, vs3, d3, ds3, p3, q3, rfl, rfl, rfl, h3, r3⟩ := trodAll_cons r2
  obtain ⟨rfl, rfl, rfl⟩ := trodAll_nil r3
  exact ⟨v0, v1, v2, v3, d0, d1, d2, d3, p0, p1, p2, p3, by cases args; simp_all, rfl, h0, h1, h2, h3⟩
theorem trodAll_five {H : Type} {enc : TypeId × Value → H} {P : Program} {w : World} {base : Nat} {spare : Nat → Bool} {held : Bool} {t0 t1 t2 t3 t4 : TypeId} {args : Array Value} {ds : List (DataW H)} {ps : List MemPlace} (h : DataW.TrodAll enc P w base spare held [t0, t1, t2, t3, t4] args.toList ds ps) :
    ∃ v0 v1 v2 v3 v4 d0 d1 d2 d3 d4 p0 p1 p2 p3 p4, args = #[v0, v1, v2, v3, v4] ∧ ds = [d0, d1, d2, d3, d4] ∧ DataW.Trod enc P w base spare held t0 v0 d0 p0 ∧ DataW.Trod enc P w base spare held t1 v1 d1 p1 ∧ DataW.Trod enc P w base spare held t2 v2 d2 p2 ∧ DataW.Trod enc P w base spare held t3 v3 d3 p3 ∧ DataW.Trod enc P w base spare held t4 v4 d4 p4 := by
  obtain ⟨v0, vs0, d0, ds0, p0, q0, hargs, rfl, rfl, h0, r0⟩ := trodAll_cons h
  obtain ⟨v1, vs1, d1, ds1, p1, q1, rfl, rfl, rfl, h1, r1⟩ := trodAll_cons r0
  obtain ⟨v2, vs2, d2, ds2, p2, q2, rfl, rfl, rfl, h2, r2⟩ := trodAll_cons r1
  obtain ⟨v3, vs3, d3, ds3, p3, q3, rfl, rfl, rfl, h3, r3⟩ := trodAll_cons r2
  obtain ⟨v4, vs4, d4, ds4, p4, q4, rfl, rfl, rfl, h4, r4⟩ := trodAll_cons r3
  obtain ⟨rfl, rfl, rfl⟩ := trodAll_nil r4
  exact ⟨v0, v1, v2, v3, v4, d0, d1, d2, d3, d4, p0, p1, p2, p3, p4, by cases args; simp_all, rfl, h0, h1, h2, h3, h4⟩
theorem trodAll_six {H : Type} {enc : TypeId × Value → H} {P : Program} {w : World} {base : Nat} {spare : Nat → Bool} {held : Bool} {t0 t1 t2 t3 t4 t5 : TypeId} {args : Array Value} {ds : List (DataW H)} {ps : List MemPlace} (h : DataW.TrodAll enc P w base spare held [t0, t1, t2, t3, t4, t5] args.toList ds ps) :
    ∃ v0 v1 v2 v3 v4 v5 d0 d1 d2 d3 d4 d5 p0 p1 p2 p3 p4 p5, args = #[v0, v1, v2, v3, v4, v5] ∧ ds = [d0, d1, d2, d3, d4, d5] ∧ DataW.Trod enc P w base spare held t0 v0 d0 p0 ∧ DataW.Trod enc P w base spare held t1 v1 d1 p1 ∧ DataW.Trod enc P w base spare held t2 v2 d2 p2 ∧ DataW.Trod enc P w base spare held t3 v3 d3 p3 ∧ DataW.Trod enc P w base spare held t4 v4 d4 p4 ∧ DataW.Trod enc P w base spare held t5 v5 d5 p5 := by
  obtain ⟨v0, vs0, d0, ds0, p0, q0, hargs, rfl, rfl, h0, r0⟩ := trodAll_cons h
  obtain ⟨v1, vs1, d1, ds1, p1, q1, rfl, rfl, rfl, h1, r1⟩ := trodAll_cons r0
  obtain ⟨v2, vs2, d2, ds2, p2, q2, rfl, rfl, rfl, h2, r2⟩ := trodAll_cons r1
  obtain ⟨v3, vs3, d3, ds3, p3, q3, rfl, rfl, rfl, h3, r3⟩ := trodAll_cons r2
  obtain ⟨v4, vs4, d4, ds4, p4, q4, rfl, rfl, rfl, h4, r4⟩ := trodAll_cons r3
  obtain ⟨v5, vs5, d5, ds5, p5, q5, rfl, rfl, rfl, h5, r5⟩ := trodAll_cons r4
  obtain ⟨rfl, rfl, rfl⟩ := trodAll_nil r5
  exact ⟨v0, v1, v2, v3, v4, v5, d0, d1, d2, d3, d4, d5, p0, p1, p2, p3, p4, p5, by cases args; simp_all, rfl, h0, h1, h2, h3, h4, h5⟩
theorem trodAll_seven {H : Type} {enc : TypeId × Value → H} {P : Program} {w : World} {base : Nat} {spare : Nat → Bool} {held : Bool} {t0 t1 t2 t3 t4 t5 t6 : TypeId} {args : Array Value} {ds : List (DataW H)} {ps : List MemPlace} (h : DataW.TrodAll enc P w base spare held [t0, t1, t2, t3, t4, t5, t6] args.toList ds ps) :
    ∃ v0 v1 v2 v3 v4 v5 v6 d0 d1 d2 d3 d4 d5 d6 p0 p1 p2 p3 p4 p5 p6, args = #[v0, v1, v2, v3, v4, v5, v6] ∧ ds = [d0, d1, d2, d3, d4, d5, d6] ∧ DataW.Trod enc P w base spare held t0 v0 d0 p0 ∧ DataW.Trod enc P w base spare held t1 v1 d1 p1 ∧ DataW.Trod enc P w base spare held t2 v2 d2 p2 ∧ DataW.Trod enc P w base spare held t3 v3 d3 p3 ∧ DataW.Trod enc P w base spare held t4 v4 d4 p4 ∧ DataW.Trod enc P w base spare held t5 v5 d5 p5 ∧ DataW.Trod enc P w base spare held t6 v6 d6 p6 := by
  obtain ⟨v0, vs0, d0, ds0, p0, q0, hargs, rfl, rfl, h0, r0⟩ := trodAll_cons h
  obtain ⟨v1, vs1, d1, ds1, p1, q1, rfl, rfl, rfl, h1, r1⟩ := trodAll_cons r0
  obtain ⟨v2, vs2, d2, ds2, p2, q2, rfl, rfl, rfl, h2, r2⟩ := trodAll_cons r1
  obtain ⟨v3, vs3, d3, ds3, p3, q3, rfl, rfl, rfl, h3, r3⟩ := trodAll_cons r2
  obtain ⟨v4, vs4, d4, ds4, p4, q4, rfl, rfl, rfl, h4, r4⟩ := trodAll_cons r3
  obtain ⟨v5, vs5, d5, ds5, p5, q5, rfl, rfl, rfl, h5, r5⟩ := trodAll_cons r4
  obtain ⟨v6, vs6, d6, ds6, p6, q6, rfl, rfl, rfl, h6, r6⟩ := trodAll_cons r5
  obtain ⟨rfl, rfl, rfl⟩ := trodAll_nil r6
  exact ⟨v0, v1, v2, v3, v4, v5, v6, d0, d1, d2, d3, d4, d5, d6, p0, p1, p2, p3, p4, p5, p6, by cases args; simp_all, rfl, h0, h1, h2, h3, h4, h5, h6⟩
end Go.Proofs.YtfconbblnmbnpaeGreatDoor
namespace Go.Proofs.YtfconbblnmbnpaeGreatDoor
open Go.RowKit

set_option maxRecDepth 1000000 in
set_option maxHeartbeats 8000000 in
theorem put_any (v : Value) (zs : List Int) (n : Int) (w : World) (hv : Ints w v zs) (hl : zs.length ≤ 1000) :
    Calls Tryz.prog 28 #[v, .int .i64 n] w fun e w' => ∃ v', e = .returned v' ∧ Ints w' v' (putGo n false zs) ∧ Below w.heap.size w w' := by
  obtain ⟨ao, cap, rfl, hat⟩ := ints_form hv
  clear hv
  obtain ⟨ii, hi, hz0, hz1, hz2⟩ := info_parts infoIntC
  go_enter Tryz.func28, Tryz.ntmps28
  go_wp2
  go_loopw [5, 6, 7] (fun o d i wr => ∃ (k : Nat) (pre : List Int) (done : Bool), k ≤ zs.length ∧ pre.length ≤ k + 1 ∧ i = .int .i64 k ∧ d = .bool done ∧ wr.ownsRow w.heap.size 3 1 o pre.length (pre.map (Value.int .i64)) ∧ Below w.heap.size w wr ∧
      pre ++ putGo n done (zs.drop k) = putGo n false zs ∧ (done = false → pre.length ≤ k)) (fun _ _ i _ => zs.length - (intOf i).toNat)
  case atStart => exact ⟨0, [], false, Nat.zero_le _, by simp, rfl, rfl, World.ownsRow_nil _ _ _ _, Below.refl _ _, by simp, by simp⟩
  case round =>
    obtain ⟨k, pre, done, hk, hpl, rfl, rfl, hown, hb, hinv, hdl⟩ := hrel
    have HI : Hid (pre ++ putGo n done (zs.drop k) = putGo n false zs) := hinv
    clear hinv
    have hsz := hb.size
    by_cases hkl : k < zs.length
    · obtain ⟨z, hz⟩ : ∃ z, zs[k]? = some z := ⟨zs[k], List.getElem?_eq_getElem hkl⟩
      have HZ : Hid (zs.drop k = z :: zs.drop (k + 1)) := by
        have := List.drop_eq_getElem_cons hkl
        rw [List.getElem?_eq_getElem hkl] at hz
        rw [Option.some.inj hz] at this
        exact this
      obtain ⟨a, rfl, hab, hca⟩ : ∃ a, ao = some a ∧ a.block < w.heap.size ∧ ∀ (i : Nat) z, zs[i]? = some z → w.cell? (a.add i) = some (.int .i64 z) := by
        rcases hat with h | h
        · rw [h] at hkl; simp at hkl
        · exact h
      have c9 := hca k z hz
      have c0 := (hb.cell (p := a.add k) (by rw [add_block]; exact hab)).trans c9
      clear hz hat hca
      cases done with
      | true =>
        have HQ : Hid ((pre ++ [z]) ++ putGo n true (zs.drop (k + 1)) = putGo n false zs) := by
          show _ = _
          have := HI.out
          rw [HZ.out, putGo_true] at this
          rw [putGo_true]
          simpa using this
        clear HI HZ hdl
        by_cases hzn : z = n
        · have hq : (z == n) = true := by simpa using hzn
          clear hzn
          go_wp2_with (at_builtin; refine wpList_append_own _ rfl _ _ 52 rfl w.heap.size 3 ii (.int .i64 0) 1 8 Tryz.underlying52 hi hz0 hz1 hz2 rfl (by decide) _ _ _ rfl (hown.alloc _) ⟨wr.heap.size, 0, none⟩ 1 1 [.int .i64 z] rfl rfl ?c1A ?c2A ?c3A ?c4A ?c5A ?_)
          case c1A =>
            intro j u hj
            match j, hj with
            | 0, hj => simp at hj; subst hj; simp [Addr.add]
          case c2A => intro u hu; simp at hu; subst hu; rfl
          case c3A => unfold maxLen; (try simp only [List.length_append, List.length_cons, List.length_nil]); omega
          case c4A => (try simp only [List.length_append, List.length_cons, List.length_nil]); omega
          case c5A => simp; omega
          intro v1 w1 hown' hgrow _
          have hbA : Below w.heap.size w w1 := (hb.alloc hsz _).grown hgrow (by simp; omega) (fun j hj => (hown.lt j hj).1)
          have RA : w1.ownsRow w.heap.size 3 1 v1 (pre ++ [z]).length ((pre ++ [z]).map (Value.int .i64)) := by simpa using hown'
          clear hown' hgrow hown
          go_wp2
          go_roundw
          case rel => exact ⟨k + 1, pre ++ [z], true, by omega, by simp; omega, by go_num, rfl, RA, hbA, HQ.out, by simp⟩
          case measure => simp [intOf]; omega
        · have hq : (z == n) = false := by simpa using hzn
          clear hzn
          go_wp2_with (at_builtin; refine wpList_append_own _ rfl _ _ 52 rfl w.heap.size 3 ii (.int .i64 0) 1 8 Tryz.underlying52 hi hz0 hz1 hz2 rfl (by decide) _ _ _ rfl (hown.alloc _) ⟨wr.heap.size, 0, none⟩ 1 1 [.int .i64 z] rfl rfl ?c1B ?c2B ?c3B ?c4B ?c5B ?_)
          case c1B =>
            intro j u hj
            match j, hj with
            | 0, hj => simp at hj; subst hj; simp [Addr.add]
          case c2B => intro u hu; simp at hu; subst hu; rfl
          case c3B => unfold maxLen; (try simp only [List.length_append, List.length_cons, List.length_nil]); omega
          case c4B => (try simp only [List.length_append, List.length_cons, List.length_nil]); omega
          case c5B => simp; omega
          intro v1 w1 hown' hgrow _
          have hbB : Below w.heap.size w w1 := (hb.alloc hsz _).grown hgrow (by simp; omega) (fun j hj => (hown.lt j hj).1)
          have RB : w1.ownsRow w.heap.size 3 1 v1 (pre ++ [z]).length ((pre ++ [z]).map (Value.int .i64)) := by simpa using hown'
          clear hown' hgrow hown
          go_wp2
          go_roundw
          case rel => exact ⟨k + 1, pre ++ [z], true, by omega, by simp; omega, by go_num, rfl, RB, hbB, HQ.out, by simp⟩
          case measure => simp [intOf]; omega
      | false =>
        have hpl2 := hdl rfl
        clear hdl
        by_cases hzn : z = n
        · have HQ : Hid ((pre ++ [z]) ++ putGo n true (zs.drop (k + 1)) = putGo n false zs) := by
            show _ = _
            have := HI.out
            rw [HZ.out, putGo_eq hzn] at this
            rw [putGo_true]
            simpa using this
          have hq : (z == n) = true := by simpa using hzn
          clear hzn HI HZ
          go_wp2_with (at_builtin; refine wpList_append_own _ rfl _ _ 52 rfl w.heap.size 3 ii (.int .i64 0) 1 8 Tryz.underlying52 hi hz0 hz1 hz2 rfl (by decide) _ _ _ rfl (hown.alloc _) ⟨wr.heap.size, 0, none⟩ 1 1 [.int .i64 z] rfl rfl ?c1C ?c2C ?c3C ?c4C ?c5C ?_)
          case c1C =>
            intro j u hj
            match j, hj with
            | 0, hj => simp at hj; subst hj; simp [Addr.add]
          case c2C => intro u hu; simp at hu; subst hu; rfl
          case c3C => unfold maxLen; (try simp only [List.length_append, List.length_cons, List.length_nil]); omega
          case c4C => (try simp only [List.length_append, List.length_cons, List.length_nil]); omega
          case c5C => simp; omega
          intro v1 w1 hown' hgrow _
          have hbC : Below w.heap.size w w1 := (hb.alloc hsz _).grown hgrow (by simp; omega) (fun j hj => (hown.lt j hj).1)
          have RC : w1.ownsRow w.heap.size 3 1 v1 (pre ++ [z]).length ((pre ++ [z]).map (Value.int .i64)) := by simpa using hown'
          clear hown' hgrow hown
          go_wp2
          go_roundw
          case rel => exact ⟨k + 1, pre ++ [z], true, by omega, by simp; omega, by go_num, rfl, RC, hbC, HQ.out, by simp⟩
          case measure => simp [intOf]; omega
        · have hq : (z == n) = false := by simpa using hzn
          by_cases hlt : n < z
          · have HQ : Hid ((pre ++ [n] ++ [z]) ++ putGo n true (zs.drop (k + 1)) = putGo n false zs) := by
              show _ = _
              have := HI.out
              rw [HZ.out, putGo_lt hlt] at this
              rw [putGo_true]
              simpa using this
            clear hzn HI HZ
            have hd : decide (z > n) = true := by simpa using hlt
            go_wp2_with (at_builtin; refine wpList_append_own _ rfl _ _ 52 rfl w.heap.size 3 ii (.int .i64 0) 1 8 Tryz.underlying52 hi hz0 hz1 hz2 rfl (by decide) _ _ _ rfl (hown.alloc _) ⟨wr.heap.size, 0, none⟩ 1 1 [.int .i64 n] rfl rfl ?c1D ?c2D ?c3D ?c4D ?c5D ?_)
            case c1D =>
              intro j u hj
              match j, hj with
              | 0, hj => simp at hj; subst hj; simp [Addr.add]
            case c2D => intro u hu; simp at hu; subst hu; rfl
            case c3D => unfold maxLen; (try simp only [List.length_append, List.length_cons, List.length_nil]); omega
            case c4D => (try simp only [List.length_append, List.length_cons, List.length_nil]); omega
            case c5D => simp; omega
            intro v1 w1 hown' hgrow _
            have hbD : Below w.heap.size w w1 := (hb.alloc hsz _).grown hgrow (by simp; omega) (fun j hj => (hown.lt j hj).1)
            have RD : w1.ownsRow w.heap.size 3 1 v1 (pre ++ [n]).length ((pre ++ [n]).map (Value.int .i64)) := by simpa using hown'
            clear hown' hgrow hown
            have hszD := hbD.size
            have c1 := (hbD.cell (p := a.add k) (by rw [add_block]; exact hab)).trans c9
            go_wp2_with (at_builtin; refine wpList_append_own _ rfl _ _ 52 rfl w.heap.size 3 ii (.int .i64 0) 1 8 Tryz.underlying52 hi hz0 hz1 hz2 rfl (by decide) _ _ _ rfl (RD.alloc _) ⟨w1.heap.size, 0, none⟩ 1 1 [.int .i64 z] rfl rfl ?c1E ?c2E ?c3E ?c4E ?c5E ?_)
            case c1E =>
              intro j u hj
              match j, hj with
              | 0, hj => simp at hj; subst hj; simp [Addr.add]
            case c2E => intro u hu; simp at hu; subst hu; rfl
            case c3E => unfold maxLen; (try simp only [List.length_append, List.length_cons, List.length_nil]); omega
            case c4E => (try simp only [List.length_append, List.length_cons, List.length_nil]); omega
            case c5E => simp; omega
            intro v2 w2 hown' hgrow _
            have hbE : Below w.heap.size w w2 := (hbD.alloc hszD _).grown hgrow (by simp; omega) (fun j hj => (RD.lt j hj).1)
            have RE : w2.ownsRow w.heap.size 3 1 v2 ((pre ++ [n]) ++ [z]).length (((pre ++ [n]) ++ [z]).map (Value.int .i64)) := by simpa using hown'
            clear hown' hgrow RD
            go_wp2
            go_roundw
            case rel => exact ⟨k + 1, pre ++ [n] ++ [z], true, by omega, by simp; omega, by go_num, rfl, RE, hbE, HQ.out, by simp⟩
            case measure => simp [intOf]; omega
          · have hd : decide (z > n) = false := by simpa using hlt
            have HQ : Hid ((pre ++ [z]) ++ putGo n false (zs.drop (k + 1)) = putGo n false zs) := by
              show _ = _
              have := HI.out
              rw [HZ.out, putGo_gt (by omega)] at this
              simpa using this
            have hle : z ≤ n := by omega
            clear hzn HI HZ hlt
            go_wp2_with (at_builtin; refine wpList_append_own _ rfl _ _ 52 rfl w.heap.size 3 ii (.int .i64 0) 1 8 Tryz.underlying52 hi hz0 hz1 hz2 rfl (by decide) _ _ _ rfl (hown.alloc _) ⟨wr.heap.size, 0, none⟩ 1 1 [.int .i64 z] rfl rfl ?c1F ?c2F ?c3F ?c4F ?c5F ?_)
            case c1F =>
              intro j u hj
              match j, hj with
              | 0, hj => simp at hj; subst hj; simp [Addr.add]
            case c2F => intro u hu; simp at hu; subst hu; rfl
            case c3F => unfold maxLen; (try simp only [List.length_append, List.length_cons, List.length_nil]); omega
            case c4F => (try simp only [List.length_append, List.length_cons, List.length_nil]); omega
            case c5F => simp; omega
            intro v1 w1 hown' hgrow _
            have hbF : Below w.heap.size w w1 := (hb.alloc hsz _).grown hgrow (by simp; omega) (fun j hj => (hown.lt j hj).1)
            have RF : w1.ownsRow w.heap.size 3 1 v1 (pre ++ [z]).length ((pre ++ [z]).map (Value.int .i64)) := by simpa using hown'
            clear hown' hgrow hown
            go_wp2
            go_roundw
            case rel => exact ⟨k + 1, pre ++ [z], false, by omega, by simp; omega, by go_num, rfl, RF, hbF, HQ.out, fun _ => by simp; omega⟩
            case measure => simp [intOf]; omega
    · have hke : k = zs.length := by omega
      subst hke
      cases done with
      | true =>
        have HP : Hid (pre = putGo n false zs) := by have := HI.out; rw [putGo_true, List.drop_length, List.append_nil] at this; exact this
        have hv := ints_of_own hown
        obtain ⟨g, n', cap', rfl⟩ := slice_form hown
        clear hown hdl
        go_wp2
        go_ret
        exact ⟨_, rfl, by rw [← HP.out]; exact hv, hb⟩
      | false =>
        have HP : Hid (pre ++ [n] = putGo n false zs) := by have := HI.out; rw [List.drop_length, putGo_nil] at this; exact this
        have hpl2 := hdl rfl
        clear hdl
        go_wp2_with (at_builtin; refine wpList_append_own _ rfl _ _ 52 rfl w.heap.size 3 ii (.int .i64 0) 1 8 Tryz.underlying52 hi hz0 hz1 hz2 rfl (by decide) _ _ _ rfl (hown.alloc _) ⟨wr.heap.size, 0, none⟩ 1 1 [.int .i64 n] rfl rfl ?c1B ?c2B ?c3B ?c4B ?c5B ?_)
        case c1B =>
          intro j u hj
          match j, hj with
          | 0, hj => simp at hj; subst hj; simp [Addr.add]
        case c2B => intro u hu; simp at hu; subst hu; rfl
        case c3B => unfold maxLen; omega
        case c4B => omega
        case c5B => simp; omega
        intro v' w1 hown' hgrow _
        have hb1 : Below w.heap.size w w1 := (hb.alloc hsz _).grown hgrow (by simp; omega) (fun j hj => (hown.lt j hj).1)
        have R : w1.ownsRow w.heap.size 3 1 v' (pre ++ [n]).length ((pre ++ [n]).map (Value.int .i64)) := by simpa using hown'
        clear hown' hgrow hown
        have hv := ints_of_own R
        obtain ⟨g, n', cap', rfl⟩ := slice_form R
        clear R
        go_wp2
        go_ret
        exact ⟨_, rfl, by rw [← HP.out]; exact hv, hb1⟩

set_option maxRecDepth 1000000 in
set_option maxHeartbeats 8000000 in
theorem ports_some (what : Int) (l : List O3) (b off cap : Nat) (w : World) (hlt : b < w.heap.size) (hlen : l.length ≤ 1000) (hw : ∀ o ∈ l, o.1 = what → 0 ≤ o.2.2 ∧ o.2.2 < 12)
    (hc : ∀ (i : Nat) o, l[i]? = some o → w.cell? ⟨b, off + i * 3, none⟩ = some (.int .i64 o.1) ∧ w.cell? ⟨b, off + i * 3 + 1, none⟩ = some (.int .i64 o.2.1) ∧ w.cell? ⟨b, off + i * 3 + 2, none⟩ = some (.int .i64 o.2.2)) :
    Calls Tryz.prog 14 #[.slice (some ⟨b, off, none⟩) l.length cap, .int .i64 what] w fun e w' => ∃ v', e = .returned v' ∧ Ints w' v' (wiresB what l) ∧ Below w.heap.size w w' := by
  go_enter Tryz.func14, Tryz.ntmps14
  go_wp2
  go_loopw [5, 6] (fun o i wr => ∃ k : Nat, k ≤ l.length ∧ i = .int .i64 k ∧ Ints wr o (wiresB what (l.take k)) ∧ Below w.heap.size w wr) (fun _ i _ => l.length - (intOf i).toNat)
  case atStart => exact ⟨0, Nat.zero_le _, rfl, Or.inl ⟨rfl, by simp [wires_nil]⟩, Below.refl _ _⟩
  case round =>
    obtain ⟨k, hk, rfl, hint, hb⟩ := hrel
    have hwl := wires_len what (l.take k)
    obtain ⟨Z, hZ⟩ : ∃ Z, Z = wiresB what (l.take k) := ⟨_, rfl⟩
    rw [← hZ] at hint hwl
    have HZ : Hid (Z = wiresB what (l.take k)) := hZ
    clear hZ
    by_cases hkl : k < l.length
    · obtain ⟨o, ho⟩ : ∃ o, l[k]? = some o := ⟨l[k], List.getElem?_eq_getElem hkl⟩
      have hom := hw o (List.mem_of_getElem? ho)
      have HS : Hid (wiresB what (l.take (k + 1)) = portStep what Z o) := by
        show _ = _
        rw [HZ.out, ← wires_snoc what (l.take k) o hom]
        have := List.take_succ_eq_append_getElem hkl
        rw [List.getElem?_eq_getElem hkl] at ho
        rw [Option.some.inj ho] at this
        rw [this]
      obtain ⟨c0, c1, c2⟩ := hc k o ho
      clear ho hom
      have d0 : wr.cell? ⟨b, off + k * 3, none⟩ = some (.int .i64 o.1) := (hb.cell (p := ⟨b, _, none⟩) hlt).trans c0
      have d2 : wr.cell? ⟨b, off + k * 3 + 2, none⟩ = some (.int .i64 o.2.2) := (hb.cell (p := ⟨b, _, none⟩) hlt).trans c2
      clear c0 c1 c2
      by_cases hq : o.1 = what
      · have HP : Hid (wiresB what (l.take (k + 1)) = putGo o.2.2 false Z) := by
          show _ = _
          rw [HS.out, portStep, if_pos hq]
        have hqb : (o.1 == what) = true := by simpa using hq
        have hput := put_any _ Z o.2.2 wr hint (by omega)
        clear hq HS hint
        go_wp2_with (go_at_call 28; refine hput.mono ?_; rintro e w1 ⟨v1, rfl, hi1, b1⟩; clear hput)
        go_roundw
        case rel => exact ⟨k + 1, by omega, by go_num, by rw [HP.out]; exact hi1, hb.trans (b1.mono hb.size)⟩
        case measure => simp [intOf]; omega
      · have HP : Hid (wiresB what (l.take (k + 1)) = Z) := by
          show _ = _
          rw [HS.out, portStep, if_neg hq]
        have hqb : (o.1 == what) = false := by simpa using hq
        clear hq HS
        go_wp2
        go_roundw
        case rel => exact ⟨k + 1, by omega, by go_num, by rw [HP.out]; exact hint, hb⟩
        case measure => simp [intOf]; omega
    · have hke : k = l.length := by omega
      subst hke
      have HP : Hid (Z = wiresB what l) := by have := HZ.out; rwa [List.take_length] at this
      obtain ⟨ao, cc, rfl, _⟩ := ints_form hint
      go_wp2
      go_ret
      exact ⟨_, rfl, by rw [← HP.out]; exact hint, hb⟩
theorem ports_any (what : Int) (v : Value) (l : List O3) (w : World) (h : Ops w v l) (hk0 : (chk l).2 = 0) (hwh : what = 8 ∨ what = 9) :
    Calls Tryz.prog 14 #[v, .int .i64 what] w fun e w' => ∃ v', e = .returned v' ∧ Ints w' v' (wiresB what l) ∧ Below w.heap.size w w' := by
  rcases h with ⟨rfl, ao, cap, rfl⟩ | ⟨b, off, cap, rfl, hlt, hc⟩
  · exact absurd hk0 (by decide)
  · obtain ⟨hz0, hz1, hz2⟩ := chk_zero hk0
    refine ports_some what l b off cap w hlt (by omega) (fun o ho e => ?_) hc
    have := ok3_range (hz2 o ho)
    have hB : bB o.1 l.length = 12 := by rw [e]; rcases hwh with rfl | rfl <;> simp [bB]
    omega
end Go.Proofs.YtfconbblnmbnpaeGreatDoor

/-
  StTwo, PgSame, WayL, FlEither, FlReached, FlIdx, FlAhead, PgPurge: joined into one text.
-/
import Derived.Test.YtfconbblnmbnpaeDoorJa1
import Derived.Test.YtfconbblnmbnpaeDoorJa2
import Derived.Test.YtfconbblnmbnpaeDoorJa10
import Derived.Test.YtfconbblnmbnpaeDoorJa7
import Derived.Deep.CutRange
import Derived.Deep.RegionWith
import Derived.BigQuiet
import Derived.RangeFuncNested
import Derived.Deep.MidRow
import Derived.Deep.RegionHeld3
namespace Go.Proofs.YtfconbblnmbnpaeDoor
open Go.RowKit

/-- Do two states look the same? -/
def sameS (s t : St) : Bool := decide (s.p = t.p) && (decide (s.c 0 = t.c 0) && (decide (s.c 1 = t.c 1) && (decide (s.c 2 = t.c 2) && (decide (s.c 3 = t.c 3) && (decide (s.c 4 = t.c 4) && (decide (s.c 5 = t.c 5) && (s.f == t.f)))))))
theorem sameS_iff {s t : St} : sameS s t = true ↔ StSame s t := by
  unfold sameS
  simp only [Bool.and_eq_true, decide_eq_true_eq, beq_iff_eq]
  constructor
  · rintro ⟨hp, h0, h1, h2, h3, h4, h5, hf⟩
    refine ⟨hp, fun i hi => ?_, hf⟩
    match i, hi with
    | 0, _ => exact h0
    | 1, _ => exact h1
    | 2, _ => exact h2
    | 3, _ => exact h3
    | 4, _ => exact h4
    | 5, _ => exact h5
  · intro h
    exact ⟨h.p, h.c 0 (by omega), h.c 1 (by omega), h.c 2 (by omega), h.c 3 (by omega), h.c 4 (by omega), h.c 5 (by omega), h.f⟩
theorem eqIn_six2 (a b c d e f a' b' c' d' e' f' : Int) (w : World) : (Op.equalIn 9999 33 (.agg #[.int .i64 a, .int .i64 b, .int .i64 c, .int .i64 d, .int .i64 e, .int .i64 f]) (.agg #[.int .i64 a', .int .i64 b', .int .i64 c', .int .i64 d', .int .i64 e', .int .i64 f'])).run Tryd.prog w = .ok (decide (a = a') && (decide (b = b') && (decide (c = c') && (decide (d = d') && (decide (e = e') && decide (f = f')))))) w := by
  obtain ⟨n, hn⟩ : ∃ n, n + 1 = 9999 := ⟨9998, rfl⟩
  obtain ⟨m, hm⟩ : ∃ m, n = m + 1 := ⟨9997, by omega⟩
  rw [← hn]
  clear hn
  have hq : ∀ (x y : Int) (w : World), (Op.equalIn n 3 (.int .i64 x) (.int .i64 y)).run Tryd.prog w = .ok (decide (x = y)) w := fun x y w => by
    rw [hm, run_equalIn_int w m 3 .i64 .i64 x y Tryd.underlying3]
    by_cases h : x = y <;> simp [h]
  clear hm
  simp only [Op.equalIn, Sem.run_bind, run_underlying Tryd.underlying33, Result.andThen_ok]
  by_cases h0 : a = a'
  · by_cases h1 : b = b'
    · by_cases h2 : c = c'
      · by_cases h3 : d = d'
        · by_cases h4 : e = e'
          · by_cases h5 : f = f'
            · simp [List.range', go_sem, hq, h0, h1, h2, h3, h4, h5]
            · simp [List.range', go_sem, hq, h0, h1, h2, h3, h4, h5]
          · simp [List.range', go_sem, hq, h0, h1, h2, h3, h4]
        · simp [List.range', go_sem, hq, h0, h1, h2, h3]
      · simp [List.range', go_sem, hq, h0, h1, h2]
    · simp [List.range', go_sem, hq, h0, h1]
  · simp [List.range', go_sem, hq, h0]
theorem eqIn_st2 (s t : St) (w : World) : (Op.equalIn 10000 35 (.agg #[.int .i64 s.p, .int .i64 (s.c 0), .int .i64 (s.c 1), .int .i64 (s.c 2), .int .i64 (s.c 3), .int .i64 (s.c 4), .int .i64 (s.c 5), .bool s.f]) (.agg #[.int .i64 t.p, .int .i64 (t.c 0), .int .i64 (t.c 1), .int .i64 (t.c 2), .int .i64 (t.c 3), .int .i64 (t.c 4), .int .i64 (t.c 5), .bool t.f])).run Tryd.prog w = .ok (sameS s t) w := by
  rw [run_equalIn_agg _ _ _ _ _ fieldsSt stoodSt, fieldsStIs]
  unfold sameS
  by_cases h0 : s.p = t.p
  · cases hsix : (decide (s.c 0 = t.c 0) && (decide (s.c 1 = t.c 1) && (decide (s.c 2 = t.c 2) && (decide (s.c 3 = t.c 3) && (decide (s.c 4 = t.c 4) && decide (s.c 5 = t.c 5)))))) with
    | true =>
      have e := hsix
      simp only [Bool.and_eq_true, decide_eq_true_eq] at e
      obtain ⟨e0, e1, e2, e3, e4, e5⟩ := e
      simp [go_sem, Tryd.underlying3, Tryd.underlying4, eqIn_six2, h0, e0, e1, e2, e3, e4, e5]
      by_cases hf : s.f = t.f <;> simp [hf]
    | false =>
      have e : (decide (s.c 0 = t.c 0) && (decide (s.c 1 = t.c 1) && (decide (s.c 2 = t.c 2) && (decide (s.c 3 = t.c 3) && (decide (s.c 4 = t.c 4) && (decide (s.c 5 = t.c 5) && (s.f == t.f))))))) = false := by
        revert hsix
        cases decide (s.c 0 = t.c 0) <;> cases decide (s.c 1 = t.c 1) <;> cases decide (s.c 2 = t.c 2) <;> cases decide (s.c 3 = t.c 3) <;> cases decide (s.c 4 = t.c 4) <;> cases decide (s.c 5 = t.c 5) <;> simp
      rw [e]
      simp [go_sem, Tryd.underlying3, Tryd.underlying4, eqIn_six2, h0, hsix]
  · simp [go_sem, Tryd.underlying3, Tryd.underlying4, h0]
theorem neq_st2 (s t : St) (w : World) : (binOp .neq 35 (.agg #[.int .i64 s.p, .int .i64 (s.c 0), .int .i64 (s.c 1), .int .i64 (s.c 2), .int .i64 (s.c 3), .int .i64 (s.c 4), .int .i64 (s.c 5), .bool s.f]) (.agg #[.int .i64 t.p, .int .i64 (t.c 0), .int .i64 (t.c 1), .int .i64 (t.c 2), .int .i64 (t.c 3), .int .i64 (t.c 4), .int .i64 (t.c 5), .bool t.f])).run Tryd.prog w = .ok (.bool (!(sameS s t))) w := by
  rw [run_neq_struct, eqIn_st2]
  rfl
end Go.Proofs.YtfconbblnmbnpaeDoor
namespace Go.Proofs.YtfconbblnmbnpaeDoor
open Go.RowKit

theorem index_two (a b c d a' b' c' d' : Value) (w : World) : (Instr.index 78 (.agg #[a, b, c, d, a', b', c', d']) (.int .i64 0)).run Tryd.prog w = .ok (.agg #[a, b, c, d]) w ∧ (Instr.index 78 (.agg #[a, b, c, d, a', b', c', d']) (.int .i64 1)).run Tryd.prog w = .ok (.agg #[a', b', c', d']) w := by
  constructor <;> kernel_rfl
set_option maxRecDepth 100000 in
set_option maxHeartbeats 8000000 in
theorem psm_p (p q : PD) (vc vs vw ic is iw : Value) (n r : Int) (w : World) (hfm : Forms w) (hP : Pln w vc vs vw p) (hQ : Pln w ic is iw q) (hp : plchk p ≠ 0) :
    Calls Tryd.prog 11 #[plV vc p.ticks vs vw, plV ic q.ticks is iw, .int .i64 n, .int .i64 r] w fun e w' => e = .returned (.tuple #[.int .i64 0, wErr (plchk p)]) ∧ Below w.heap.size w w' := by
  obtain ⟨ca, cc, rfl⟩ := hP.code.form
  obtain ⟨sa, sc, rfl⟩ := hP.spans.form
  obtain ⟨wa, wc', rfl⟩ := hP.wires.form
  obtain ⟨xa, xc, rfl⟩ := hQ.code.form
  obtain ⟨ya, yc, rfl⟩ := hQ.spans.form
  obtain ⟨za, zc', rfl⟩ := hQ.wires.form
  have hx1 := Bxt.first w (.slice ca p.code.length cc) p.ticks (.slice sa p.spans.length sc) (.slice wa p.wires.length wc') (.slice xa q.code.length xc) q.ticks (.slice ya q.spans.length yc) (.slice za q.wires.length zc')
  generalize hWA : (w.alloc (.cells #[.slice ca p.code.length cc, .int .i64 p.ticks, .slice sa p.spans.length sc, .slice wa p.wires.length wc'] 26)).alloc (.cells #[.slice xa q.code.length xc, .int .i64 q.ticks, .slice ya q.spans.length yc, .slice za q.wires.length zc'] 26) = WA at hx1
  have HC : Hid (∀ W, Below w.heap.size w W → Calls Tryd.prog 12 #[.agg #[.slice ca p.code.length cc, .int .i64 p.ticks, .slice sa p.spans.length sc, .slice wa p.wires.length wc']] W fun e w' => e = .returned (wErr (plchk p)) ∧ Below W.heap.size W w') := fun W hb => plcheck_any p _ _ _ _ (hfm.all hb) (hP.all hb)
  have HD : Hid (∀ W, Below w.heap.size w W → Calls Tryd.prog 12 #[.agg #[.slice xa q.code.length xc, .int .i64 q.ticks, .slice ya q.spans.length yc, .slice za q.wires.length zc']] W fun e w' => e = .returned (wErr (plchk q)) ∧ Below W.heap.size W w') := fun W hb => plcheck_any q _ _ _ _ (hfm.all hb) (hQ.all hb)
  unfold plV
  rw [wErr_not hp] at HC ⊢
  generalize plchk p = ec at HC hp ⊢
  obtain ⟨k0, k1, k2, k3⟩ := hx1.cs
  obtain ⟨d0, d1, d2, d3⟩ := hx1.ds
  have hi0 := fun W => (index_two (.slice ca p.code.length cc) (.int .i64 p.ticks) (.slice sa p.spans.length sc) (.slice wa p.wires.length wc') (.slice xa q.code.length xc) (.int .i64 q.ticks) (.slice ya q.spans.length yc) (.slice za q.wires.length zc') W).1
  have hi1 := fun W => (index_two (.slice ca p.code.length cc) (.int .i64 p.ticks) (.slice sa p.spans.length sc) (.slice wa p.wires.length wc') (.slice xa q.code.length xc) (.int .i64 q.ticks) (.slice ya q.spans.length yc) (.slice za q.wires.length zc') W).2
  clear hP hQ hfm HD
  go_enter Tryd.func11, Tryd.ntmps11
  go_upto_region 1 with fail
  clear hWA
  go_wp2
  refine wp_loop_rounds 3 ?_
  rw [rounds_succ]
  go_upto_region 4 with fail
  have hx2 := hx1.step ((Below.refl _ _).alloc (Nat.le_refl _) (.cells #[.slice ca p.code.length cc, .int .i64 p.ticks, .slice sa p.spans.length sc, .slice wa p.wires.length wc'] 26))
  have q1 := HC.out _ hx2.below
  clear HC
  go_wp2_with (go_at_call 12; refine q1.mono ?_; rintro e w2 ⟨rfl, b2⟩; clear q1)
  go_ret2
  exact ⟨rfl, (hx2.step b2).below⟩
set_option maxRecDepth 100000 in
set_option maxHeartbeats 8000000 in
theorem psm_q (p q : PD) (vc vs vw ic is iw : Value) (n r : Int) (w : World) (hfm : Forms w) (hP : Pln w vc vs vw p) (hQ : Pln w ic is iw q) (hp : plchk p = 0) (hq : plchk q ≠ 0) :
    Calls Tryd.prog 11 #[plV vc p.ticks vs vw, plV ic q.ticks is iw, .int .i64 n, .int .i64 r] w fun e w' => e = .returned (.tuple #[.int .i64 0, wErr (plchk q)]) ∧ Below w.heap.size w w' := by
  obtain ⟨ca, cc, rfl⟩ := hP.code.form
  obtain ⟨sa, sc, rfl⟩ := hP.spans.form
  obtain ⟨wa, wc', rfl⟩ := hP.wires.form
  obtain ⟨xa, xc, rfl⟩ := hQ.code.form
  obtain ⟨ya, yc, rfl⟩ := hQ.spans.form
  obtain ⟨za, zc', rfl⟩ := hQ.wires.form
  have hx1 := Bxt.first w (.slice ca p.code.length cc) p.ticks (.slice sa p.spans.length sc) (.slice wa p.wires.length wc') (.slice xa q.code.length xc) q.ticks (.slice ya q.spans.length yc) (.slice za q.wires.length zc')
  generalize hWA : (w.alloc (.cells #[.slice ca p.code.length cc, .int .i64 p.ticks, .slice sa p.spans.length sc, .slice wa p.wires.length wc'] 26)).alloc (.cells #[.slice xa q.code.length xc, .int .i64 q.ticks, .slice ya q.spans.length yc, .slice za q.wires.length zc'] 26) = WA at hx1
  have HC : Hid (∀ W, Below w.heap.size w W → Calls Tryd.prog 12 #[.agg #[.slice ca p.code.length cc, .int .i64 p.ticks, .slice sa p.spans.length sc, .slice wa p.wires.length wc']] W fun e w' => e = .returned (wErr (plchk p)) ∧ Below W.heap.size W w') := fun W hb => plcheck_any p _ _ _ _ (hfm.all hb) (hP.all hb)
  have HD : Hid (∀ W, Below w.heap.size w W → Calls Tryd.prog 12 #[.agg #[.slice xa q.code.length xc, .int .i64 q.ticks, .slice ya q.spans.length yc, .slice za q.wires.length zc']] W fun e w' => e = .returned (wErr (plchk q)) ∧ Below W.heap.size W w') := fun W hb => plcheck_any q _ _ _ _ (hfm.all hb) (hQ.all hb)
  unfold plV
  rw [wErr_not hq] at HD ⊢
  rw [hp] at HC
  simp only [wErr, if_true] at HC
  generalize plchk q = ec at HD hq ⊢
  obtain ⟨k0, k1, k2, k3⟩ := hx1.cs
  obtain ⟨d0, d1, d2, d3⟩ := hx1.ds
  have hi0 := fun W => (index_two (.slice ca p.code.length cc) (.int .i64 p.ticks) (.slice sa p.spans.length sc) (.slice wa p.wires.length wc') (.slice xa q.code.length xc) (.int .i64 q.ticks) (.slice ya q.spans.length yc) (.slice za q.wires.length zc') W).1
  have hi1 := fun W => (index_two (.slice ca p.code.length cc) (.int .i64 p.ticks) (.slice sa p.spans.length sc) (.slice wa p.wires.length wc') (.slice xa q.code.length xc) (.int .i64 q.ticks) (.slice ya q.spans.length yc) (.slice za q.wires.length zc') W).2
  clear hP hQ hfm hp
  go_enter Tryd.func11, Tryd.ntmps11
  go_upto_region 1 with fail
  clear hWA
  go_wp2
  refine wp_loop_rounds 3 ?_
  rw [rounds_succ]
  go_upto_region 4 with fail
  have hx2 := hx1.step ((Below.refl _ _).alloc (Nat.le_refl _) (.cells #[.slice ca p.code.length cc, .int .i64 p.ticks, .slice sa p.spans.length sc, .slice wa p.wires.length wc'] 26))
  have q1 := HC.out _ hx2.below
  clear HC
  go_wp2_with (go_at_call 12; refine q1.mono ?_; rintro e w2 ⟨rfl, b2⟩; clear q1)
  have hx3 := hx2.step b2
  clear k0 k1 k2 k3 d0 d1 d2 d3 hi0 hx1 hx2 b2
  rw [rounds_succ]
  go_upto_region 4 with fail
  have hx4 := hx3.step ((Below.refl _ _).alloc (Nat.le_refl _) (.cells #[.slice xa q.code.length xc, .int .i64 q.ticks, .slice ya q.spans.length yc, .slice za q.wires.length zc'] 26))
  have q2 := HD.out _ hx4.below
  clear HD
  go_wp2_with (go_at_call 12; refine q2.mono ?_; rintro e w4 ⟨rfl, b4⟩; clear q2)
  go_ret2
  exact ⟨rfl, (hx4.step b4).below⟩
set_option maxRecDepth 100000 in
set_option maxHeartbeats 8000000 in
theorem psm_rp {G : World → Prop} (p q : PD) (vc vs vw ic is iw : Value) (n r : Int) (w : World) (hfm : Forms w) (hP : Pln w vc vs vw p) (hQ : Pln w ic is iw q) (hG : G w) (hall : ∀ w w', G w → Below w.heap.size w w' → G w') (R : SgtRun G) (hp : plchk p = 0) (hq : plchk q = 0) (hr : runE p n r = 1) :
    Calls Tryd.prog 11 #[plV vc p.ticks vs vw, plV ic q.ticks is iw, .int .i64 n, .int .i64 r] w fun e w' => e = .returned (.tuple #[.int .i64 0, wErr 1]) ∧ Below w.heap.size w w' := by
  obtain ⟨ca, cc, rfl⟩ := hP.code.form
  obtain ⟨sa, sc, rfl⟩ := hP.spans.form
  obtain ⟨wa, wc', rfl⟩ := hP.wires.form
  obtain ⟨xa, xc, rfl⟩ := hQ.code.form
  obtain ⟨ya, yc, rfl⟩ := hQ.spans.form
  obtain ⟨za, zc', rfl⟩ := hQ.wires.form
  have hx1 := Bxt.first w (.slice ca p.code.length cc) p.ticks (.slice sa p.spans.length sc) (.slice wa p.wires.length wc') (.slice xa q.code.length xc) q.ticks (.slice ya q.spans.length yc) (.slice za q.wires.length zc')
  generalize hWA : (w.alloc (.cells #[.slice ca p.code.length cc, .int .i64 p.ticks, .slice sa p.spans.length sc, .slice wa p.wires.length wc'] 26)).alloc (.cells #[.slice xa q.code.length xc, .int .i64 q.ticks, .slice ya q.spans.length yc, .slice za q.wires.length zc'] 26) = WA at hx1
  have HC : Hid (∀ W, Below w.heap.size w W → Calls Tryd.prog 12 #[.agg #[.slice ca p.code.length cc, .int .i64 p.ticks, .slice sa p.spans.length sc, .slice wa p.wires.length wc']] W fun e w' => e = .returned (wErr (plchk p)) ∧ Below W.heap.size W w') := fun W hb => plcheck_any p _ _ _ _ (hfm.all hb) (hP.all hb)
  have HD : Hid (∀ W, Below w.heap.size w W → Calls Tryd.prog 12 #[.agg #[.slice xa q.code.length xc, .int .i64 q.ticks, .slice ya q.spans.length yc, .slice za q.wires.length zc']] W fun e w' => e = .returned (wErr (plchk q)) ∧ Below W.heap.size W w') := fun W hb => plcheck_any q _ _ _ _ (hfm.all hb) (hQ.all hb)
  unfold plV
  rw [hq] at HD
  rw [hp] at HC
  simp only [wErr, if_true] at HC HD
  have HR : Hid (∀ W, Below w.heap.size w W → Calls Tryd.prog 8 #[.agg #[.slice ca p.code.length cc, .int .i64 p.ticks, .slice sa p.spans.length sc, .slice wa p.wires.length wc'], .int .i64 n, .int .i64 r] W fun e w' => ∃ ao cap, e = .returned (.tuple #[.slice ao 0 cap, .iface 71 (.int .i64 1)]) ∧ Below W.heap.size W w') := fun W hb => by
    refine (R p _ _ _ n r W (hall w W hG hb) (hP.all hb)).mono ?_
    rintro e w' ⟨v, rfl, h1, h2⟩
    rw [hr, if_neg (by decide)] at h1
    obtain ⟨ao, cap, rfl⟩ := h1.form
    rw [hr]
    exact ⟨ao, cap, rfl, h2⟩
  rw [show wErr 1 = .iface 71 (.int .i64 1) from rfl]
  obtain ⟨k0, k1, k2, k3⟩ := hx1.cs
  obtain ⟨d0, d1, d2, d3⟩ := hx1.ds
  have hi0 := fun W => (index_two (.slice ca p.code.length cc) (.int .i64 p.ticks) (.slice sa p.spans.length sc) (.slice wa p.wires.length wc') (.slice xa q.code.length xc) (.int .i64 q.ticks) (.slice ya q.spans.length yc) (.slice za q.wires.length zc') W).1
  have hi1 := fun W => (index_two (.slice ca p.code.length cc) (.int .i64 p.ticks) (.slice sa p.spans.length sc) (.slice wa p.wires.length wc') (.slice xa q.code.length xc) (.int .i64 q.ticks) (.slice ya q.spans.length yc) (.slice za q.wires.length zc') W).2
  clear hP hQ hfm hp hq hr hall hG R
  go_enter Tryd.func11, Tryd.ntmps11
  go_upto_region 1 with fail
  clear hWA
  go_wp2
  refine wp_loop_rounds 3 ?_
  rw [rounds_succ]
  go_upto_region 4 with fail
  have hx2 := hx1.step ((Below.refl _ _).alloc (Nat.le_refl _) (.cells #[.slice ca p.code.length cc, .int .i64 p.ticks, .slice sa p.spans.length sc, .slice wa p.wires.length wc'] 26))
  have q1 := HC.out _ hx2.below
  clear HC
  go_wp2_with (go_at_call 12; refine q1.mono ?_; rintro e w2 ⟨rfl, b2⟩; clear q1)
  have hx3 := hx2.step b2
  clear k0 k1 k2 k3 d0 d1 d2 d3 hi0 hx1 hx2 b2
  rw [rounds_succ]
  go_upto_region 4 with fail
  have hx4 := hx3.step ((Below.refl _ _).alloc (Nat.le_refl _) (.cells #[.slice xa q.code.length xc, .int .i64 q.ticks, .slice ya q.spans.length yc, .slice za q.wires.length zc'] 26))
  have q2 := HD.out _ hx4.below
  clear HD
  go_wp2_with (go_at_call 12; refine q2.mono ?_; rintro e w4 ⟨rfl, b4⟩; clear q2)
  have hx5 := hx4.step b4
  clear hx3 hx4 b4 hi1
  rw [rounds_succ]
  obtain ⟨k0, k1, k2, k3⟩ := hx5.cs
  have q3 := HR.out w4 hx5.below
  clear HR
  go_wp2_with (go_at_call 8; refine q3.mono ?_; rintro e w6 ⟨ao, cap, rfl, b6⟩; clear q3)
  go_ret2
  exact ⟨rfl, (hx5.step b6).below⟩
set_option maxRecDepth 100000 in
set_option maxHeartbeats 8000000 in
theorem psm_rq {G : World → Prop} (p q : PD) (vc vs vw ic is iw : Value) (n r : Int) (w : World) (hfm : Forms w) (hP : Pln w vc vs vw p) (hQ : Pln w ic is iw q) (hG : G w) (hall : ∀ w w', G w → Below w.heap.size w w' → G w') (R : SgtRun G) (hp : plchk p = 0) (hq : plchk q = 0) (hr : runE p n r = 0) (hs : runE q n r = 1) :
    Calls Tryd.prog 11 #[plV vc p.ticks vs vw, plV ic q.ticks is iw, .int .i64 n, .int .i64 r] w fun e w' => e = .returned (.tuple #[.int .i64 0, wErr 1]) ∧ Below w.heap.size w w' := by
  obtain ⟨ca, cc, rfl⟩ := hP.code.form
  obtain ⟨sa, sc, rfl⟩ := hP.spans.form
  obtain ⟨wa, wc', rfl⟩ := hP.wires.form
  obtain ⟨xa, xc, rfl⟩ := hQ.code.form
  obtain ⟨ya, yc, rfl⟩ := hQ.spans.form
  obtain ⟨za, zc', rfl⟩ := hQ.wires.form
  have hx1 := Bxt.first w (.slice ca p.code.length cc) p.ticks (.slice sa p.spans.length sc) (.slice wa p.wires.length wc') (.slice xa q.code.length xc) q.ticks (.slice ya q.spans.length yc) (.slice za q.wires.length zc')
  generalize hWA : (w.alloc (.cells #[.slice ca p.code.length cc, .int .i64 p.ticks, .slice sa p.spans.length sc, .slice wa p.wires.length wc'] 26)).alloc (.cells #[.slice xa q.code.length xc, .int .i64 q.ticks, .slice ya q.spans.length yc, .slice za q.wires.length zc'] 26) = WA at hx1
  have HC : Hid (∀ W, Below w.heap.size w W → Calls Tryd.prog 12 #[.agg #[.slice ca p.code.length cc, .int .i64 p.ticks, .slice sa p.spans.length sc, .slice wa p.wires.length wc']] W fun e w' => e = .returned (wErr (plchk p)) ∧ Below W.heap.size W w') := fun W hb => plcheck_any p _ _ _ _ (hfm.all hb) (hP.all hb)
  have HD : Hid (∀ W, Below w.heap.size w W → Calls Tryd.prog 12 #[.agg #[.slice xa q.code.length xc, .int .i64 q.ticks, .slice ya q.spans.length yc, .slice za q.wires.length zc']] W fun e w' => e = .returned (wErr (plchk q)) ∧ Below W.heap.size W w') := fun W hb => plcheck_any q _ _ _ _ (hfm.all hb) (hQ.all hb)
  unfold plV
  rw [hq] at HD
  rw [hp] at HC
  simp only [wErr, if_true] at HC HD
  have HR : Hid (∀ W, Below w.heap.size w W → Calls Tryd.prog 8 #[.agg #[.slice ca p.code.length cc, .int .i64 p.ticks, .slice sa p.spans.length sc, .slice wa p.wires.length wc'], .int .i64 n, .int .i64 r] W fun e w' => ∃ b off cap, e = .returned (.tuple #[.slice (some ⟨b, off, none⟩) (statesK p n.toNat r.toNat).length cap, .nilIface]) ∧ b < w'.heap.size ∧ (∀ (i : Nat) s, (statesK p n.toNat r.toNat)[i]? = some s → StC w' b (off + i * 8) s) ∧ Below W.heap.size W w') := fun W hb => by
    refine (R p _ _ _ n r W (hall w W hG hb) (hP.all hb)).mono ?_
    rintro e w' ⟨v, rfl, h1, h2⟩
    rw [hr, if_pos rfl] at h1
    rw [hr]
    rcases h1 with ⟨h3, _⟩ | ⟨b, off, cap, rfl, _, h4, h5⟩
    · have := statesK_len p n.toNat r.toNat
      rw [h3] at this
      cases this
    · exact ⟨b, off, cap, rfl, h4, h5, h2⟩
  have HS : Hid (∀ W, Below w.heap.size w W → Calls Tryd.prog 8 #[.agg #[.slice xa q.code.length xc, .int .i64 q.ticks, .slice ya q.spans.length yc, .slice za q.wires.length zc'], .int .i64 n, .int .i64 r] W fun e w' => ∃ ao cap, e = .returned (.tuple #[.slice ao 0 cap, .iface 71 (.int .i64 1)]) ∧ Below W.heap.size W w') := fun W hb => by
    refine (R q _ _ _ n r W (hall w W hG hb) (hQ.all hb)).mono ?_
    rintro e w' ⟨v, rfl, h1, h2⟩
    rw [hs, if_neg (by decide)] at h1
    obtain ⟨ao, cap, rfl⟩ := h1.form
    rw [hs]
    exact ⟨ao, cap, rfl, h2⟩
  rw [show wErr 1 = .iface 71 (.int .i64 1) from rfl]
  obtain ⟨k0, k1, k2, k3⟩ := hx1.cs
  obtain ⟨d0, d1, d2, d3⟩ := hx1.ds
  have hi0 := fun W => (index_two (.slice ca p.code.length cc) (.int .i64 p.ticks) (.slice sa p.spans.length sc) (.slice wa p.wires.length wc') (.slice xa q.code.length xc) (.int .i64 q.ticks) (.slice ya q.spans.length yc) (.slice za q.wires.length zc') W).1
  have hi1 := fun W => (index_two (.slice ca p.code.length cc) (.int .i64 p.ticks) (.slice sa p.spans.length sc) (.slice wa p.wires.length wc') (.slice xa q.code.length xc) (.int .i64 q.ticks) (.slice ya q.spans.length yc) (.slice za q.wires.length zc') W).2
  clear hP hQ hfm hp hq hr hs hall hG R
  generalize statesK p n.toNat r.toNat = l at HR
  go_enter Tryd.func11, Tryd.ntmps11
  go_upto_region 1 with fail
  clear hWA
  go_wp2
  refine wp_loop_rounds 3 ?_
  rw [rounds_succ]
  go_upto_region 4 with fail
  have hx2 := hx1.step ((Below.refl _ _).alloc (Nat.le_refl _) (.cells #[.slice ca p.code.length cc, .int .i64 p.ticks, .slice sa p.spans.length sc, .slice wa p.wires.length wc'] 26))
  have q1 := HC.out _ hx2.below
  clear HC
  go_wp2_with (go_at_call 12; refine q1.mono ?_; rintro e w2 ⟨rfl, b2⟩; clear q1)
  have hx3 := hx2.step b2
  clear k0 k1 k2 k3 d0 d1 d2 d3 hi0 hx1 hx2 b2
  rw [rounds_succ]
  go_upto_region 4 with fail
  have hx4 := hx3.step ((Below.refl _ _).alloc (Nat.le_refl _) (.cells #[.slice xa q.code.length xc, .int .i64 q.ticks, .slice ya q.spans.length yc, .slice za q.wires.length zc'] 26))
  have q2 := HD.out _ hx4.below
  clear HD
  go_wp2_with (go_at_call 12; refine q2.mono ?_; rintro e w4 ⟨rfl, b4⟩; clear q2)
  have hx5 := hx4.step b4
  clear hx3 hx4 b4 hi1
  rw [rounds_succ]
  obtain ⟨k0, k1, k2, k3⟩ := hx5.cs
  have q3 := HR.out w4 hx5.below
  clear HR
  go_wp2_with (first
    | (go_at_call 8; refine q3.mono ?_; rintro e w6 ⟨lb, lo, lc, rfl, hl1, hl2, b6⟩; clear q3 k0 k1 k2 k3; have hx6 := hx5.step b6; obtain ⟨d0, d1, d2, d3⟩ := hx6.ds; have q4 := HS.out w6 hx6.below; clear HS)
    | (go_at_call 8; refine q4.mono ?_; rintro e w7 ⟨ao, cap, rfl, b7⟩; clear q4))
  go_ret2
  exact ⟨rfl, (hx6.step b7).below⟩
theorem partAt_yes {l m : List St} {k : Nat} (h : ∀ (j : Nat) s t, j < k → l[j]? = some s → m[j]? = some t → likeS s t = true) (hl : k ≤ l.length) (hm : k ≤ m.length) : partAt l m 0 = partAt (l.drop k) (m.drop k) k := by
  induction k with
  | zero => rfl
  | succ k ih =>
    rw [ih (fun j s t hj => h j s t (by omega)) (by omega) (by omega), partAt_drop (List.getElem?_eq_getElem (show k < l.length by omega)) (List.getElem?_eq_getElem (show k < m.length by omega))]
    rw [if_pos (h k _ _ (by omega) (List.getElem?_eq_getElem _) (List.getElem?_eq_getElem _))]
set_option maxRecDepth 100000 in
set_option maxHeartbeats 8000000 in
theorem psm_ok {G : World → Prop} (p q : PD) (vc vs vw ic is iw : Value) (n r : Int) (w : World) (hfm : Forms w) (hP : Pln w vc vs vw p) (hQ : Pln w ic is iw q) (hG : G w) (hall : ∀ w w', G w → Below w.heap.size w w' → G w') (R : SgtRun G) (hp : plchk p = 0) (hq : plchk q = 0) (hr : runE p n r = 0) (hs : runE q n r = 0) :
    Calls Tryd.prog 11 #[plV vc p.ticks vs vw, plV ic q.ticks is iw, .int .i64 n, .int .i64 r] w fun e w' => e = .returned (.tuple #[.int .i64 (partAt (statesK p n.toNat r.toNat) (statesK q n.toNat r.toNat) 0), .nilIface]) ∧ Below w.heap.size w w' := by
  obtain ⟨ca, cc, rfl⟩ := hP.code.form
  obtain ⟨sa, sc, rfl⟩ := hP.spans.form
  obtain ⟨wa, wc', rfl⟩ := hP.wires.form
  obtain ⟨xa, xc, rfl⟩ := hQ.code.form
  obtain ⟨ya, yc, rfl⟩ := hQ.spans.form
  obtain ⟨za, zc', rfl⟩ := hQ.wires.form
  have hx1 := Bxt.first w (.slice ca p.code.length cc) p.ticks (.slice sa p.spans.length sc) (.slice wa p.wires.length wc') (.slice xa q.code.length xc) q.ticks (.slice ya q.spans.length yc) (.slice za q.wires.length zc')
  generalize hWA : (w.alloc (.cells #[.slice ca p.code.length cc, .int .i64 p.ticks, .slice sa p.spans.length sc, .slice wa p.wires.length wc'] 26)).alloc (.cells #[.slice xa q.code.length xc, .int .i64 q.ticks, .slice ya q.spans.length yc, .slice za q.wires.length zc'] 26) = WA at hx1
  have HC : Hid (∀ W, Below w.heap.size w W → Calls Tryd.prog 12 #[.agg #[.slice ca p.code.length cc, .int .i64 p.ticks, .slice sa p.spans.length sc, .slice wa p.wires.length wc']] W fun e w' => e = .returned (wErr (plchk p)) ∧ Below W.heap.size W w') := fun W hb => plcheck_any p _ _ _ _ (hfm.all hb) (hP.all hb)
  have HD : Hid (∀ W, Below w.heap.size w W → Calls Tryd.prog 12 #[.agg #[.slice xa q.code.length xc, .int .i64 q.ticks, .slice ya q.spans.length yc, .slice za q.wires.length zc']] W fun e w' => e = .returned (wErr (plchk q)) ∧ Below W.heap.size W w') := fun W hb => plcheck_any q _ _ _ _ (hfm.all hb) (hQ.all hb)
  unfold plV
  rw [hq] at HD
  rw [hp] at HC
  simp only [wErr, if_true] at HC HD
  have HR : Hid (∀ W, Below w.heap.size w W → Calls Tryd.prog 8 #[.agg #[.slice ca p.code.length cc, .int .i64 p.ticks, .slice sa p.spans.length sc, .slice wa p.wires.length wc'], .int .i64 n, .int .i64 r] W fun e w' => ∃ b off cap, e = .returned (.tuple #[.slice (some ⟨b, off, none⟩) (statesK p n.toNat r.toNat).length cap, .nilIface]) ∧ b < w'.heap.size ∧ (∀ (i : Nat) s, (statesK p n.toNat r.toNat)[i]? = some s → StC w' b (off + i * 8) s) ∧ Below W.heap.size W w') := fun W hb => by
    refine (R p _ _ _ n r W (hall w W hG hb) (hP.all hb)).mono ?_
    rintro e w' ⟨v, rfl, h1, h2⟩
    rw [hr, if_pos rfl] at h1
    rw [hr]
    rcases h1 with ⟨h3, _⟩ | ⟨b, off, cap, rfl, _, h4, h5⟩
    · have := statesK_len p n.toNat r.toNat
      rw [h3] at this
      cases this
    · exact ⟨b, off, cap, rfl, h4, h5, h2⟩
  have HS : Hid (∀ W, Below w.heap.size w W → Calls Tryd.prog 8 #[.agg #[.slice xa q.code.length xc, .int .i64 q.ticks, .slice ya q.spans.length yc, .slice za q.wires.length zc'], .int .i64 n, .int .i64 r] W fun e w' => ∃ b off cap, e = .returned (.tuple #[.slice (some ⟨b, off, none⟩) (statesK q n.toNat r.toNat).length cap, .nilIface]) ∧ b < w'.heap.size ∧ (∀ (i : Nat) s, (statesK q n.toNat r.toNat)[i]? = some s → StC w' b (off + i * 8) s) ∧ Below W.heap.size W w') := fun W hb => by
    refine (R q _ _ _ n r W (hall w W hG hb) (hQ.all hb)).mono ?_
    rintro e w' ⟨v, rfl, h1, h2⟩
    rw [hs, if_pos rfl] at h1
    rw [hs]
    rcases h1 with ⟨h3, _⟩ | ⟨b, off, cap, rfl, _, h4, h5⟩
    · have := statesK_len q n.toNat r.toNat
      rw [h3] at this
      cases this
    · exact ⟨b, off, cap, rfl, h4, h5, h2⟩
  obtain ⟨k0, k1, k2, k3⟩ := hx1.cs
  obtain ⟨d0, d1, d2, d3⟩ := hx1.ds
  have hi0 := fun W => (index_two (.slice ca p.code.length cc) (.int .i64 p.ticks) (.slice sa p.spans.length sc) (.slice wa p.wires.length wc') (.slice xa q.code.length xc) (.int .i64 q.ticks) (.slice ya q.spans.length yc) (.slice za q.wires.length zc') W).1
  have hi1 := fun W => (index_two (.slice ca p.code.length cc) (.int .i64 p.ticks) (.slice sa p.spans.length sc) (.slice wa p.wires.length wc') (.slice xa q.code.length xc) (.int .i64 q.ticks) (.slice ya q.spans.length yc) (.slice za q.wires.length zc') W).2
  have hll : (statesK p n.toNat r.toNat).length = (statesK q n.toNat r.toNat).length := by rw [statesK_len, statesK_len]
  have hl3 : (statesK p n.toNat r.toNat).length ≤ 2001 := by
    rw [statesK_len]
    unfold runE at hr
    rw [if_pos hp] at hr
    split at hr
    · cases hr
    · omega
  have HLL : Hid ((statesK p n.toNat r.toNat).length = (statesK q n.toNat r.toNat).length) := hll
  clear hP hQ hfm hp hq hr hs hall hG R hll
  generalize statesK p n.toNat r.toNat = l at *
  generalize statesK q n.toNat r.toNat = m at *
  go_enter Tryd.func11, Tryd.ntmps11
  go_upto_region 1 with fail
  clear hWA
  go_wp2
  refine wp_loop_rounds 3 ?_
  rw [rounds_succ]
  go_upto_region 4 with fail
  have hx2 := hx1.step ((Below.refl _ _).alloc (Nat.le_refl _) (.cells #[.slice ca p.code.length cc, .int .i64 p.ticks, .slice sa p.spans.length sc, .slice wa p.wires.length wc'] 26))
  have q1 := HC.out _ hx2.below
  clear HC
  go_wp2_with (go_at_call 12; refine q1.mono ?_; rintro e w2 ⟨rfl, b2⟩; clear q1)
  have hx3 := hx2.step b2
  clear k0 k1 k2 k3 d0 d1 d2 d3 hi0 hx1 hx2 b2
  rw [rounds_succ]
  go_upto_region 4 with fail
  have hx4 := hx3.step ((Below.refl _ _).alloc (Nat.le_refl _) (.cells #[.slice xa q.code.length xc, .int .i64 q.ticks, .slice ya q.spans.length yc, .slice za q.wires.length zc'] 26))
  have q2 := HD.out _ hx4.below
  clear HD
  go_wp2_with (go_at_call 12; refine q2.mono ?_; rintro e w4 ⟨rfl, b4⟩; clear q2)
  have hx5 := hx4.step b4
  clear hx3 hx4 b4 hi1
  rw [rounds_succ]
  obtain ⟨k0, k1, k2, k3⟩ := hx5.cs
  have q3 := HR.out w4 hx5.below
  clear HR
  go_wp2_with (first
    | (go_at_call 8; refine q3.mono ?_; rintro e w6 ⟨lb, lo, lc, rfl, hl1, hl2, b6⟩; clear q3 k0 k1 k2 k3; have hx6 := hx5.step b6; obtain ⟨d0, d1, d2, d3⟩ := hx6.ds; have q4 := HS.out w6 hx6.below; clear HS)
    | (go_at_call 8; refine q4.mono ?_; rintro e w7 ⟨mb, mo, mc, rfl, hm1, hm2, b7⟩; clear q4))
  have hx7 := hx6.step b7
  have HA : Hid (∀ (i : Nat) s, l[i]? = some s → StC w7 lb (lo + i * 8) s) := fun i s h => (hl2 i s h).block (b7.block lb hl1)
  have HB : Hid (∀ (i : Nat) s, m[i]? = some s → StC w7 mb (mo + i * 8) s) := hm2
  have hl4 : lb < w7.heap.size := Nat.lt_of_lt_of_le hl1 b7.size
  clear hl2 hm2 d0 d1 d2 d3 hx5 hx6 b6 b7 hl1
  have hgd := guardSt
  go_loopw [52] (fun i wr => ∃ k : Nat, k ≤ l.length ∧ i = .int .i64 k ∧ (∀ (j : Nat) s t, j < k → l[j]? = some s → m[j]? = some t → likeS s t = true) ∧ Below w7.heap.size w7 wr) (fun i _ => l.length - (intOf i).toNat)
  case atStart => exact ⟨0, Nat.zero_le _, rfl, fun j s t hj => by omega, Below.refl _ _⟩
  case round =>
    obtain ⟨k, hk, rfl, hall, hbw⟩ := hrel
    have HY : Hid (∀ (j : Nat) s t, j < k → l[j]? = some s → m[j]? = some t → likeS s t = true) := hall
    have hsz := hbw.size
    clear hall
    by_cases hkl : k < l.length
    · have hki : (k : Int) < (l.length : Int) := by omega
      have hkm' : k < m.length := by rw [← HLL.out]; exact hkl
      have hkm : (k : Int) < (m.length : Int) := by omega
      obtain ⟨s, hs⟩ : ∃ s, l[k]? = some s := ⟨_, List.getElem?_eq_getElem hkl⟩
      obtain ⟨u, hu⟩ : ∃ u, m[k]? = some u := ⟨_, List.getElem?_eq_getElem hkm'⟩
      have HD : Hid (∀ h : (∀ (j : Nat) s t, j < k → l[j]? = some s → m[j]? = some t → likeS s t = true), partAt l m 0 = if sameS s u = true then partAt (l.drop (k + 1)) (m.drop (k + 1)) (k + 1) else (k : Int)) := fun h => (partAt_yes h (by omega) (by omega)).trans (partAt_drop hs hu)
      have HSU : Hid (l[k]? = some s ∧ m[k]? = some u) := ⟨hs, hu⟩
      obtain ⟨s0, s1, s2, s3, s4, s5, s6, s7⟩ := (HA.out k s hs).block (hbw.block lb hl4)
      have HT : Hid (∀ o, StC (wr.alloc o) mb (mo + k * 8) u) := fun o => ((HB.out k u hu).block (hbw.block mb hm1)).block (((Below.refl wr.heap.size wr).alloc (Nat.le_refl _) o).block mb (by omega))
      have hnq := neq_st2 s u
      clear hs hu
      cases hss : sameS s u with
      | true =>
        rw [hss] at hnq
        have HSS : Hid (likeS s u = true) := hss
        clear hss HD
        go_upto_region 17 with fail
        obtain ⟨t0, t1, t2, t3, t4, t5, t6, t7⟩ := HT.out (.cells #[.int .i64 s.p, .int .i64 (s.c 0), .int .i64 (s.c 1), .int .i64 (s.c 2), .int .i64 (s.c 3), .int .i64 (s.c 4), .int .i64 (s.c 5), .bool s.f] 35)
        go_quiet (fail)
        go_wp2
        go_roundw
        case rel =>
          refine ⟨k + 1, by omega, by go_num, fun j x y hj hx hy => ?_, below_dN (hbw.alloc hbw.size _) _⟩
          by_cases hjk : j < k
          · exact HY.out j x y hjk hx hy
          · obtain rfl : j = k := by omega
            rw [HSU.out.1] at hx
            rw [HSU.out.2] at hy
            obtain rfl := Option.some.inj hx
            obtain rfl := Option.some.inj hy
            exact HSS.out
        case measure => simp [intOf]; omega
      | false =>
        have HX : Hid (partAt l m 0 = (k : Int)) := by
          show _ = _
          rw [HD.out HY.out, hss, if_neg (by decide)]
        rw [hss] at hnq
        clear hss HD
        go_upto_region 17 with fail
        obtain ⟨t0, t1, t2, t3, t4, t5, t6, t7⟩ := HT.out (.cells #[.int .i64 s.p, .int .i64 (s.c 0), .int .i64 (s.c 1), .int .i64 (s.c 2), .int .i64 (s.c 3), .int .i64 (s.c 4), .int .i64 (s.c 5), .bool s.f] 35)
        go_quiet (fail)
        go_wp2
        go_ret2
        exact ⟨by rw [HX.out]; rfl, (hx7.step (below_dN (hbw.alloc hbw.size _) _)).below⟩
    · obtain rfl : k = l.length := by omega
      have hki : decide ((l.length : Int) < (l.length : Int)) = false := decide_eq_false (by omega)
      have HX : Hid (partAt l m 0 = -1) := by
        show _ = _
        rw [partAt_yes HY.out (Nat.le_refl _) (Nat.le_of_eq HLL.out), partAt_end (Nat.le_refl _)]
      clear HY
      go_wp2
      go_ret2
      exact ⟨by rw [HX.out]; rfl, (hx7.step hbw).below⟩
/-- Same does what the laws ask of it. -/
theorem prg_same {G : World → Prop} (hF : ∀ w, G w → Forms w) (hall : ∀ w w', G w → Below w.heap.size w w' → G w') (R : SgtRun G) : PrgSame G := fun p q vc vs vw ic is iw n r W hG hP hQ => by
  by_cases hp : plchk p = 0
  · by_cases hq : plchk q = 0
    · by_cases h1 : r < 0 ∨ (p.code.length : Int) ≤ r ∨ n < 0 ∨ 2000 < n
      · have he : likeE p q n r = 1 := by
          unfold likeE
          rw [if_pos hp, if_pos hq, if_pos (by omega)]
        have ha : likeAt p q n r = 0 := by
          unfold likeAt
          rw [if_neg (by omega)]
        rw [he, ha]
        exact psm_rp p q vc vs vw ic is iw n r W (hF W hG) hP hQ hG hall R hp hq (by unfold runE; rw [if_pos hp, if_pos h1])
      · have hr : runE p n r = 0 := by
          unfold runE
          rw [if_pos hp, if_neg h1]
        by_cases h2 : (q.code.length : Int) ≤ r
        · have he : likeE p q n r = 1 := by
            unfold likeE
            rw [if_pos hp, if_pos hq, if_pos (by omega)]
          have ha : likeAt p q n r = 0 := by
            unfold likeAt
            rw [if_neg (by omega)]
          rw [he, ha]
          exact psm_rq p q vc vs vw ic is iw n r W (hF W hG) hP hQ hG hall R hp hq hr (by unfold runE; rw [if_pos hq, if_pos (by omega)])
        · have he : likeE p q n r = 0 := by
            unfold likeE
            rw [if_pos hp, if_pos hq, if_neg (by omega)]
          have ha : likeAt p q n r = partAt (statesK p n.toNat r.toNat) (statesK q n.toNat r.toNat) 0 := by
            unfold likeAt
            rw [if_pos he]
          rw [he, ha]
          exact psm_ok p q vc vs vw ic is iw n r W (hF W hG) hP hQ hG hall R hp hq hr (by unfold runE; rw [if_pos hq, if_neg (by omega)])
    · have he : likeE p q n r = plchk q := by
        unfold likeE
        rw [if_pos hp, if_neg hq]
      have ha : likeAt p q n r = 0 := by
        unfold likeAt
        rw [if_neg (by rw [he]; exact hq)]
      rw [he, ha]
      exact psm_q p q vc vs vw ic is iw n r W (hF W hG) hP hQ hp hq
  · have he : likeE p q n r = plchk p := by
      unfold likeE
      rw [if_neg hp]
    have ha : likeAt p q n r = 0 := by
      unfold likeAt
      rw [if_neg (by rw [he]; exact hp)]
    rw [he, ha]
    exact psm_p p q vc vs vw ic is iw n r W (hF W hG) hP hQ hp
end Go.Proofs.YtfconbblnmbnpaeDoor
namespace Go.Proofs.YtfconbblnmbnpaeDoor
open Go.RowKit

/-- Five rows of five, in a block. -/
def Mx (w : World) (b : Nat) (M : Nat → Nat → Bool) : Prop := ∀ i k, i < 5 → k < 5 → w.cell? ⟨b, i * 5 + k, none⟩ = some (.bool (M i k)) ∧ w.frozen? ⟨b, i * 5 + k, none⟩ = false
def mset (M : Nat → Nat → Bool) (i k : Nat) : Nat → Nat → Bool := fun x y => if x = i ∧ y = k then true else M x y
theorem mset_at (M : Nat → Nat → Bool) (i k : Nat) : mset M i k i k = true := by simp [mset]
theorem mset_off (M : Nat → Nat → Bool) {i k x y : Nat} (h : ¬ (x = i ∧ y = k)) : mset M i k x y = M x y := by simp [mset, h]
theorem Mx.set {w : World} {b : Nat} {M : Nat → Nat → Bool} (h : Mx w b M) {i k : Nat} (hi : i < 5) (hk : k < 5) : Mx (w.setCell ⟨b, i * 5 + k, none⟩ (.bool true)) b (mset M i k) := fun x y hx hy => by
  obtain ⟨h1, h2⟩ := h x y hx hy
  obtain ⟨h3, h4⟩ := h i k hi hk
  refine ⟨?_, (World.frozen?_setCell _ _ _ _).trans h2⟩
  by_cases he : x = i ∧ y = k
  · obtain ⟨rfl, rfl⟩ := he
    rw [mset_at]
    simp [go_sem, h1]
  · rw [mset_off _ he]
    rw [World.cell?_setCell_other _ _ _ _ (by intro e; injection e with _ e2; omega)]
    exact h1
theorem Mx.below {w w' : World} {b B : Nat} {M : Nat → Nat → Bool} (h : Mx w b M) (hb : Below B w w') (hB : b < B) : Mx w' b M := fun x y hx hy =>
  ⟨(hb.cell (p := ⟨b, _, none⟩) hB).trans (h x y hx hy).1, (hb.frozen (p := ⟨b, _, none⟩) hB).trans (h x y hx hy).2⟩
theorem Mx.apart {w : World} {b c : Nat} {M : Nat → Nat → Bool} (h : Mx w b M) (hne : b ≠ c) (i : Nat) (u : Value) : Mx (w.setCell ⟨c, i, none⟩ u) b M := fun x y hx hy =>
  ⟨(World.cell?_of_block (w := w) (a := ⟨b, x * 5 + y, none⟩) (Below.heap_setCell _ _ _ _ hne)).trans (h x y hx hy).1, (World.frozen?_setCell _ _ _ _).trans (h x y hx hy).2⟩
theorem Mx.drew {w : World} {b : Nat} {M : Nat → Nat → Bool} (h : Mx w b M) : Mx w.drew b M := h
theorem take_snoc4 {l : List W4} {k : Nat} {x : W4} (h : l[k]? = some x) : l.take (k + 1) = l.take k ++ [x] := by
  obtain ⟨hk, rfl⟩ := List.getElem?_eq_some_iff.1 h
  rw [List.take_succ_eq_append_getElem hk]
theorem Mx.congr {w : World} {b : Nat} {M N : Nat → Nat → Bool} (h : Mx w b M) (he : ∀ x y, x < 5 → y < 5 → M x y = N x y) : Mx w b N := fun x y hx hy => by rw [← he x y hx hy]; exact h x y hx hy
/-- Within one m: between what was and what will be. -/
def Win (e : Nat → Nat → Bool) (m i k : Nat) (M : Nat → Nat → Bool) : Prop := ∀ x y, x < 5 → y < 5 → (pm e m x y = true → M x y = true) ∧ (M x y = true → pm e (m + 1) x y = true) ∧ ((x < i ∨ (x = i ∧ y < k)) → M x y = pm e (m + 1) x y)
theorem Win.start (e : Nat → Nat → Bool) (m : Nat) : Win e m 0 0 (pm e m) := fun x y _ _ => ⟨id, pm_grow, fun h => by omega⟩
theorem Win.line {e : Nat → Nat → Bool} {m i : Nat} {M : Nat → Nat → Bool} (h : Win e m i 5 M) : Win e m (i + 1) 0 M := fun x y hx hy => ⟨(h x y hx hy).1, (h x y hx hy).2.1, fun hh => (h x y hx hy).2.2 (by omega)⟩
theorem Win.last {e : Nat → Nat → Bool} {m : Nat} {M : Nat → Nat → Bool} (h : Win e m 5 0 M) : ∀ x y, x < 5 → y < 5 → M x y = pm e (m + 1) x y := fun x y hx hy => (h x y hx hy).2.2 (by omega)
theorem Win.yes {e : Nat → Nat → Bool} {m i k : Nat} {M : Nat → Nat → Bool} (h : Win e m i k M) (hm : m < 5) (hi : i < 5) (hk : k < 5) (h1 : M i m = true) (h2 : M m k = true) : Win e m i (k + 1) (mset M i k) := by
  have hv : pm e (m + 1) i k = true := pm_via (pm_col ((h i m hi hm).2.1 h1)) (pm_row ((h m k hm hk).2.1 h2))
  intro x y hx hy
  by_cases he : x = i ∧ y = k
  · obtain ⟨rfl, rfl⟩ := he
    rw [mset_at]
    exact ⟨fun _ => rfl, fun _ => hv, fun _ => hv.symm⟩
  · rw [mset_off _ he]
    exact ⟨(h x y hx hy).1, (h x y hx hy).2.1, fun hh => (h x y hx hy).2.2 (by omega)⟩
theorem Win.no {e : Nat → Nat → Bool} {m i k : Nat} {M : Nat → Nat → Bool} (h : Win e m i k M) (hm : m < 5) (hi : i < 5) (hk : k < 5) (h0 : ¬ (M i m = true ∧ M m k = true)) : Win e m i (k + 1) M := by
  intro x y hx hy
  refine ⟨(h x y hx hy).1, (h x y hx hy).2.1, fun hh => ?_⟩
  by_cases he : x = i ∧ y = k
  · obtain ⟨rfl, rfl⟩ := he
    cases hM : M x y with
    | true => exact ((h x y hx hy).2.1 hM).symm
    | false =>
      cases hp : pm e (m + 1) x y with
      | false => rfl
      | true =>
        rcases pm_cases hp with a | ⟨a, b⟩
        · rw [(h x y hx hy).1 a] at hM; cases hM
        · exact absurd ⟨(h x m hx hm).1 a, (h m y hm hy).1 b⟩ h0
  · exact (h x y hx hy).2.2 (by omega)
theorem edge_snoc (l : List W4) (f t k d : Int) (i j : Nat) (hi : f = (i : Int)) (hj : t = (j : Int)) : ∀ x y, mset (edge l) i j x y = edge (l ++ [(f, t, k, d)]) x y := fun x y => by
  subst hi
  subst hj
  by_cases he : x = i ∧ y = j
  · obtain ⟨rfl, rfl⟩ := he
    rw [mset_at, edge_wire (x := ((x : Int), (y : Int), k, d)) (by simp) rfl rfl]
  · rw [mset_off _ he]
    simp only [edge, List.any_append, List.any_cons, List.any_nil, Bool.or_false]
    have : (decide ((i : Int) = (x : Int)) && decide ((j : Int) = (y : Int))) = false := by
      rw [Bool.and_eq_false_iff]
      by_cases h1 : x = i
      · right; simp; omega
      · left; simp; omega
    rw [this]
    simp
/-- The diagonal, so far. -/
def dg (n : Nat) : Nat → Nat → Bool := fun x y => decide (x = y) && decide (x < n)
theorem dg_succ (n : Nat) : ∀ x y, mset (dg n) n n x y = dg (n + 1) x y := fun x y => by
  by_cases he : x = n ∧ y = n
  · obtain ⟨rfl, rfl⟩ := he
    rw [mset_at]; simp [dg]
  · rw [mset_off _ he]
    unfold dg
    by_cases hxy : x = y
    · have : x ≠ n := fun h => he ⟨h, hxy ▸ h⟩
      simp only [hxy, decide_true, Bool.true_and, decide_eq_decide]
      omega
    · simp [hxy]
theorem dg_five : ∀ x y, x < 5 → y < 5 → dg 5 x y = edge [] x y := fun x y hx _ => by simp [dg, edge, hx]

/-- All ways as cells. -/
def wayCells (l : List W4) : List Value := (List.range 25).map fun j => .bool (way l (j / 5) (j % 5))
theorem way_one (l : List W4) : (wayCells l).toArray.all (·.oneCell') = true := all_oneCell_toArray fun v hv => by
  obtain ⟨x, _, rfl⟩ := List.mem_map.1 hv
  rfl
theorem Mx.range {w : World} {b : Nat} {l : List W4} (h : Mx w b (pm (edge l) 5)) : w.rangeAt b 0 (wayCells l) := fun j v hv => by
  have hj : j < 25 := by
    have := (List.getElem?_eq_some_iff.1 hv).1
    simpa [wayCells] using this
  have hv' : v = .bool (way l (j / 5) (j % 5)) := by
    simp only [wayCells, List.getElem?_map, List.getElem?_range hj, Option.map_some, Option.some.injEq] at hv
    exact hv.symm
  have := (h (j / 5) (j % 5) (by omega) (by omega)).1
  rw [show j / 5 * 5 + j % 5 = j by omega] at this
  rw [Nat.zero_add, hv', this]
  rfl
theorem Mx.there {w : World} {b : Nat} {M : Nat → Nat → Bool} (h : Mx w b M) : w.there b 0 25 := fun j hj => by
  have := h (j / 5) (j % 5) (by omega) (by omega)
  rw [show j / 5 * 5 + j % 5 = j by omega] at this
  rw [Nat.zero_add]
  exact ⟨by rw [this.1]; rfl, this.2⟩
theorem below_cells {B : Nat} {w0 w : World} (h : Below B w0 w) {b : Nat} (hb : B ≤ b) : ∀ (vs : List Value) (o : Nat), Below B w0 (w.setCells b o vs) := fun vs => by
  revert w
  induction vs with
  | nil => intro w h o; exact h
  | cons v r ih => intro w h o; exact ih (h.setCell (p := ⟨b, o, none⟩) hb v) (o + 1)
/-- One result that lies in memory. -/
theorem results_cell {P : Program} {fn : Func} {tmps : Array Value} {w : World} {s : Nat} {t : TypeId} {ad : Addr} {v : Value} (hf : fn.results = #[.cell s t]) (ha : tmps.getD s undef = .pointer (some ad)) (hl : (loadVar t ad).run P w = .ok v w) : (results fn tmps).run P w = .ok v w := by
  unfold results
  rw [hf]
  have e : ∀ f : ResultVar → Sem Value, Array.mapM f #[ResultVar.cell s t] = (do let x ← f (.cell s t); pure #[x]) := fun f => by simp [Array.mapM_eq_mapM_toList]
  rw [e]
  simp only [ha, asAddr, Sem.run_bind, Sem.run_pure, Result.andThen_ok, hl]
  simp
theorem five {P : Nat → Prop} (h0 : P 0) (h1 : P 1) (h2 : P 2) (h3 : P 3) (h4 : P 4) : ∀ x, x < 5 → P x
  | 0, _ => h0
  | 1, _ => h1
  | 2, _ => h2
  | 3, _ => h3
  | 4, _ => h4
  | n + 5, h => by omega
end Go.Proofs.YtfconbblnmbnpaeDoor
namespace Go.Proofs.YtfconbblnmbnpaeDoor
open Go.RowKit

/-- Five in a block. -/
def Rw (w : World) (b : Nat) (M : Nat → Bool) : Prop := ∀ k, k < 5 → w.cell? ⟨b, k, none⟩ = some (.bool (M k)) ∧ w.frozen? ⟨b, k, none⟩ = false
/-- Five as a value. -/
def rwV (M : Nat → Bool) : Value := .agg #[.bool (M 0), .bool (M 1), .bool (M 2), .bool (M 3), .bool (M 4)]
def upto (k : Nat) (A B : Nat → Bool) : Nat → Bool := fun x => if x < k then (A x || B x) else A x
theorem upto_here (k : Nat) (A B : Nat → Bool) : upto k A B k = A k := by simp [upto]
theorem upto_zero (A B : Nat → Bool) : upto 0 A B = A := by funext x; simp [upto]
theorem upto_five (A B : Nat → Bool) {x : Nat} (h : x < 5) : upto 5 A B x = (A x || B x) := by simp [upto, h]
theorem Rw.set {w : World} {b : Nat} {M N : Nat → Bool} (h : Rw w b M) {k : Nat} {c : Bool} (hk : k < 5) (hc : N k = c) (hn : ∀ x, x ≠ k → N x = M x) : Rw (w.setCell ⟨b, k, none⟩ (.bool c)) b N := fun x hx => by
  obtain ⟨h1, h2⟩ := h x hx
  refine ⟨?_, (World.frozen?_setCell _ _ _ _).trans h2⟩
  by_cases he : x = k
  · subst he
    rw [hc]
    simp [go_sem, h1]
  · rw [hn x he, World.cell?_setCell_other _ _ _ _ (by intro e; injection e with _ e2; exact he e2.symm)]
    exact h1
theorem Rw.next {w : World} {b : Nat} {A B : Nat → Bool} {k : Nat} (h : Rw w b (upto k A B)) (hk : k < 5) {c : Bool} (hc : c = (A k || B k)) : Rw (w.setCell ⟨b, k, none⟩ (.bool c)) b (upto (k + 1) A B) :=
  h.set hk (by simp [upto, hc]) (fun x hx => by unfold upto; by_cases h1 : x < k; rw [if_pos (by omega), if_pos h1]; rw [if_neg (by omega), if_neg h1])
theorem Rw.apart {w : World} {b c : Nat} {M : Nat → Bool} (h : Rw w b M) (hne : b ≠ c) (i : Nat) (u : Value) : Rw (w.setCell ⟨c, i, none⟩ u) b M := fun x hx =>
  ⟨(World.cell?_of_block (w := w) (a := ⟨b, x, none⟩) (Below.heap_setCell _ _ _ _ hne)).trans (h x hx).1, (World.frozen?_setCell _ _ _ _).trans (h x hx).2⟩
theorem Rw.new (w : World) (M : Nat → Bool) (t : TypeId) : Rw (w.alloc (.cells #[.bool (M 0), .bool (M 1), .bool (M 2), .bool (M 3), .bool (M 4)] t)) w.heap.size M := by
  refine five ?_ ?_ ?_ ?_ ?_ <;> simp
theorem Rw.new_at {w : World} {b : Nat} (hb : b = w.heap.size) (M : Nat → Bool) (t : TypeId) : Rw (w.alloc (.cells #[.bool (M 0), .bool (M 1), .bool (M 2), .bool (M 3), .bool (M 4)] t)) b M := by
  subst hb
  exact Rw.new w M t
theorem Rw.alloc {w : World} {b : Nat} {M : Nat → Bool} (h : Rw w b M) (hb : b < w.heap.size) (o : Obj) : Rw (w.alloc o) b M := fun x hx => by
  have hB : Below w.heap.size w (w.alloc o) := (Below.refl _ _).alloc (Nat.le_refl _) _
  exact ⟨(hB.cell (p := ⟨b, _, none⟩) hb).trans (h x hx).1, (hB.frozen (p := ⟨b, _, none⟩) hb).trans (h x hx).2⟩
set_option maxRecDepth 100000 in
theorem index_row (M : Nat → Bool) : ∀ (k : Nat), k < 5 → ∀ w : World, (Instr.index 82 (.agg #[.bool (M 0), .bool (M 1), .bool (M 2), .bool (M 3), .bool (M 4)]) (.int .i64 (k : Int))).run Tryd.prog w = .ok (.bool (M k)) w := by
  refine five ?_ ?_ ?_ ?_ ?_ <;> exact fun _ => by kernel_rfl

set_option maxRecDepth 100000 in
set_option maxHeartbeats 4000000 in
theorem either_any (A B : Nat → Bool) (w : World) :
    Calls Tryd.prog 53 #[rwV A, rwV B] w fun e w' => e = .returned (rwV fun x => A x || B x) ∧ Below w.heap.size w w' := by
  unfold rwV
  go_enter Tryd.func53, Tryd.ntmps53
  go_wp2
  go_loopw [8] (fun i wr => ∃ k : Nat, k ≤ 5 ∧ i = .int .i64 k ∧ Rw wr w.heap.size (upto k A B) ∧ Rw wr (w.heap.size + 2) (fun _ => false) ∧ Below w.heap.size w wr ∧ w.heap.size + 3 ≤ wr.heap.size) (fun i _ => 5 - (intOf i).toNat)
  case atStart =>
    refine ⟨0, Nat.zero_le _, rfl, ?_, ?_, (((Below.refl _ _).alloc (Nat.le_refl _) _).alloc (by simp) _).alloc (by simp; omega) _, by simp⟩
    · rw [upto_zero]
      exact ((Rw.new w A 82).alloc (by simp) _).alloc (by simp; omega) _
    · exact Rw.new_at (by simp) (fun _ => false) 82
  case round =>
    obtain ⟨k, hk, rfl, hM, hZ, hB, hsz⟩ := hrel
    have HM : Hid (Rw wr w.heap.size (upto k A B)) := hM
    have HZ : Hid (Rw wr (w.heap.size + 2) (fun _ => false)) := hZ
    clear hM hZ
    by_cases hk5 : k < 5
    · have hki : (k : Int) < 5 := by omega
      have hix := index_row B k hk5
      obtain ⟨c, f⟩ := HM.out k hk5
      rw [upto_here] at c
      have hA : A k = true ∨ A k = false := by cases A k <;> simp
      rcases hA with hA | hA
      · rw [hA] at c
        have HC : Hid (true = (A k || B k)) := by show _ = _; rw [hA]; rfl
        clear hA
        go_wp2
        go_roundw
        case rel => exact ⟨k + 1, by omega, by go_num, HM.out.next hk5 HC.out, HZ.out.apart (by omega) _ _, hB.setCell (p := ⟨w.heap.size, _, none⟩) (Nat.le_refl _) _, by simpa using hsz⟩
        case measure => simp [intOf]; omega
      · rw [hA] at c
        have HC : Hid (B k = (A k || B k)) := by show _ = _; rw [hA]; rfl
        clear hA
        go_wp2
        go_roundw
        case rel => exact ⟨k + 1, by omega, by go_num, HM.out.next hk5 HC.out, HZ.out.apart (by omega) _ _, hB.setCell (p := ⟨w.heap.size, _, none⟩) (Nat.le_refl _) _, by simpa using hsz⟩
        case measure => simp [intOf]; omega
    · obtain rfl : k = 5 := by omega
      obtain ⟨c0, _⟩ := HM.out 0 (by omega)
      obtain ⟨c1, _⟩ := HM.out 1 (by omega)
      obtain ⟨c2, _⟩ := HM.out 2 (by omega)
      obtain ⟨c3, _⟩ := HM.out 3 (by omega)
      obtain ⟨c4, _⟩ := HM.out 4 (by omega)
      rw [upto_five _ _ (by omega)] at c0 c1 c2 c3 c4
      obtain ⟨d0, f0⟩ := HZ.out 0 (by omega)
      obtain ⟨d1, f1⟩ := HZ.out 1 (by omega)
      obtain ⟨d2, f2⟩ := HZ.out 2 (by omega)
      obtain ⟨d3, f3⟩ := HZ.out 3 (by omega)
      obtain ⟨d4, f4⟩ := HZ.out 4 (by omega)
      clear HM HZ
      go_wp2
      refine bodyPost_ret (v := .agg #[.bool (A 0 || B 0), .bool (A 1 || B 1), .bool (A 2 || B 2), .bool (A 3 || B 3), .bool (A 4 || B 4)]) ?_ rfl ⟨rfl, ?_⟩
      · simp [results, Tryd.results53, go_sem, d0, d1, d2, d3, d4]
      exact ((((hB.setCell (p := ⟨w.heap.size + 2, _, none⟩) (by simp) _).setCell (p := ⟨w.heap.size + 2, _, none⟩) (by simp) _).setCell (p := ⟨w.heap.size + 2, _, none⟩) (by simp) _).setCell (p := ⟨w.heap.size + 2, _, none⟩) (by simp) _).setCell (p := ⟨w.heap.size + 2, _, none⟩) (by simp) _
end Go.Proofs.YtfconbblnmbnpaeDoor
namespace Go.Proofs.YtfconbblnmbnpaeDoor
open Go.RowKit

/-- A row of five put in. -/
def rset (M : Nat → Nat → Bool) (i : Nat) (A : Nat → Bool) : Nat → Nat → Bool := fun x y => if x = i then A y else M x y
theorem Mx.row {w : World} {b : Nat} {M : Nat → Nat → Bool} (h : Mx w b M) {i : Nat} (hi : i < 5) (A : Nat → Bool) :
    Mx (((((w.setCell ⟨b, i * 5, none⟩ (.bool (A 0))).setCell ⟨b, i * 5 + 1, none⟩ (.bool (A 1))).setCell ⟨b, i * 5 + 2, none⟩ (.bool (A 2))).setCell ⟨b, i * 5 + 3, none⟩ (.bool (A 3))).setCell ⟨b, i * 5 + 4, none⟩ (.bool (A 4))) b (rset M i A) := fun x y hx hy => by
  obtain ⟨h1, h2⟩ := h x y hx hy
  refine ⟨?_, by simpa using h2⟩
  by_cases he : x = i
  · subst he
    have e : rset M x A x y = A y := by simp [rset]
    rw [e]
    have g0 := (h x 0 hi (by omega)).1
    have g1 := (h x 1 hi (by omega)).1
    have g2 := (h x 2 hi (by omega)).1
    have g3 := (h x 3 hi (by omega)).1
    have g4 := (h x 4 hi (by omega)).1
    rw [Nat.add_zero] at g0
    obtain rfl | rfl | rfl | rfl | rfl : y = 0 ∨ y = 1 ∨ y = 2 ∨ y = 3 ∨ y = 4 := by omega
    all_goals simp [go_sem, g0, g1, g2, g3, g4]
  · have e : rset M i A x y = M x y := by simp [rset, he]
    rw [e]
    rw [World.cell?_setCell_other _ _ _ _ (by intro e; injection e with _ e2; omega), World.cell?_setCell_other _ _ _ _ (by intro e; injection e with _ e2; omega), World.cell?_setCell_other _ _ _ _ (by intro e; injection e with _ e2; omega), World.cell?_setCell_other _ _ _ _ (by intro e; injection e with _ e2; omega), World.cell?_setCell_other _ _ _ _ (by intro e; injection e with _ e2; omega)]
    exact h1
theorem Mx.apart5 {w : World} {b c : Nat} {M : Nat → Nat → Bool} (h : Mx w b M) (hne : b ≠ c) (i0 i1 i2 i3 i4 : Nat) (u0 u1 u2 u3 u4 : Value) :
    Mx (((((w.setCell ⟨c, i0, none⟩ u0).setCell ⟨c, i1, none⟩ u1).setCell ⟨c, i2, none⟩ u2).setCell ⟨c, i3, none⟩ u3).setCell ⟨c, i4, none⟩ u4) b M :=
  ((((h.apart hne _ _).apart hne _ _).apart hne _ _).apart hne _ _).apart hne _ _
theorem Mx.alloc {w : World} {b : Nat} {M : Nat → Nat → Bool} (h : Mx w b M) (hb : b < w.heap.size) (o : Obj) : Mx (w.alloc o) b M :=
  h.below (B := w.heap.size) ((Below.refl _ _).alloc (Nat.le_refl _) _) hb
/-- A row that takes over what another one reaches. -/
theorem Win.took {e : Nat → Nat → Bool} {m i : Nat} {M : Nat → Nat → Bool} (h : Win e m i 0 M) (hm : m < 5) (hi : i < 5) (h1 : M i m = true) : Win e m (i + 1) 0 (rset M i fun y => M i y || M m y) := by
  intro x y hx hy
  by_cases he : x = i
  · subst he
    have ev : rset M x (fun y => M x y || M m y) x y = (M x y || M m y) := by simp [rset]
    rw [ev]
    have hup : (M x y || M m y) = true → pm e (m + 1) x y = true := fun hh => by
      rw [Bool.or_eq_true] at hh
      rcases hh with a | a
      · exact (h x y hx hy).2.1 a
      · exact pm_via (pm_col ((h x m hx hm).2.1 h1)) (pm_row ((h m y hm hy).2.1 a))
    refine ⟨fun hp => by rw [(h x y hx hy).1 hp]; rfl, hup, fun _ => ?_⟩
    cases hq : (M x y || M m y) with
    | true => exact (hup hq).symm
    | false =>
      cases hp : pm e (m + 1) x y with
      | false => rfl
      | true =>
        rw [Bool.or_eq_false_iff] at hq
        rcases pm_cases hp with a | ⟨_, b⟩
        · rw [(h x y hx hy).1 a] at hq; cases hq.1
        · rw [(h m y hm hy).1 b] at hq; cases hq.2
  · have ev : rset M i (fun y => M i y || M m y) x y = M x y := by simp [rset, he]
    rw [ev]
    exact ⟨(h x y hx hy).1, (h x y hx hy).2.1, fun hh => (h x y hx hy).2.2 (by omega)⟩
theorem Win.left {e : Nat → Nat → Bool} {m i : Nat} {M : Nat → Nat → Bool} (h : Win e m i 0 M) (hm : m < 5) (hi : i < 5) (h1 : M i m = false) : Win e m (i + 1) 0 M := by
  intro x y hx hy
  refine ⟨(h x y hx hy).1, (h x y hx hy).2.1, fun hh => ?_⟩
  by_cases he : x = i
  · subst he
    cases hM : M x y with
    | true => exact ((h x y hx hy).2.1 hM).symm
    | false =>
      cases hp : pm e (m + 1) x y with
      | false => rfl
      | true =>
        rcases pm_cases hp with a | ⟨a, _⟩
        · rw [(h x y hx hy).1 a] at hM; cases hM
        · rw [(h x m hx hm).1 a] at h1; cases h1
  · exact (h x y hx hy).2.2 (by omega)

set_option maxRecDepth 100000 in
set_option maxHeartbeats 8000000 in
theorem reached_any (l : List W4) (v : Value) (w : World) (hl : Wrs w v l) (hlen : l.length ≤ 12) (hok : ∀ x ∈ l, w4chk x = 0) :
    Calls Tryd.prog 34 #[v] w fun e w' => e = .returned (.agg (wayCells l).toArray) ∧ Below w.heap.size w w' := by
  obtain ⟨ao, cap, rfl⟩ := hl.form
  have HL : Hid (Wrs w (.slice ao l.length cap) l) := hl
  have HK : Hid (∀ x ∈ l, w4chk x = 0) := hok
  clear hl hok
  go_enter Tryd.func34, Tryd.ntmps34
  go_wp2
  go_loopw [9] (fun i wr => ∃ k : Nat, k ≤ 5 ∧ i = .int .i64 k ∧ Mx wr (w.heap.size + 1) (dg k) ∧ Mx wr w.heap.size (dg 0) ∧ Below w.heap.size w wr ∧ w.heap.size + 2 ≤ wr.heap.size) (fun i _ => 5 - (intOf i).toNat)
  case atStart =>
    refine ⟨0, Nat.zero_le _, rfl, ?_, ?_, ((Below.refl _ _).alloc (Nat.le_refl _) _).alloc (by simp) _, by simp⟩
    · intro x y hx hy
      revert y
      revert x
      refine five ?_ ?_ ?_ ?_ ?_ <;> refine five ?_ ?_ ?_ ?_ ?_ <;> simp [dg]
    · intro x y hx hy
      revert y
      revert x
      refine five ?_ ?_ ?_ ?_ ?_ <;> refine five ?_ ?_ ?_ ?_ ?_ <;> simp [dg]
  case round =>
    obtain ⟨k, hk, rfl, hM, hZ, hB, hsz⟩ := hrel
    have HM : Hid (Mx wr (w.heap.size + 1) (dg k)) := hM
    have HZ : Hid (Mx wr w.heap.size (dg 0)) := hZ
    clear hM hZ
    by_cases hk5 : k < 5
    · have hki : (k : Int) < 5 := by omega
      obtain ⟨c, f⟩ := HM.out k k hk5 hk5
      go_wp2
      go_roundw
      case rel => exact ⟨k + 1, by omega, by go_num, (HM.out.set hk5 hk5).congr (fun x y _ _ => dg_succ k x y), HZ.out.apart (by omega) _ _, hB.setCell (p := ⟨w.heap.size + 1, _, none⟩) (Nat.le_succ _) _, by simpa using hsz⟩
      case measure => simp [intOf]; omega
    · obtain rfl : k = 5 := by omega
      rw [show ((5 : Nat) : Int) = 5 from rfl]
      have HE : Hid (Mx wr (w.heap.size + 1) (edge (l.take 0))) := HM.out.congr (fun x y hx hy => by rw [List.take_zero]; exact dg_five x y hx hy)
      clear HM
      go_wp2
      rename World => wo
      go_loopw [19] (fun i wr => ∃ k : Nat, k ≤ l.length ∧ i = .int .i64 k ∧ Mx wr (w.heap.size + 1) (edge (l.take k)) ∧ Mx wr w.heap.size (dg 0) ∧ Below w.heap.size w wr ∧ w.heap.size + 2 ≤ wr.heap.size) (fun i _ => l.length - (intOf i).toNat)
      case atStart => exact ⟨0, Nat.zero_le _, rfl, HE.out, HZ.out, hB, hsz⟩
      case round =>
        clear HE HZ hB hsz
        obtain ⟨k, hk, rfl, hM, hZ, hB, hsz⟩ := hrel
        have HM : Hid (Mx wr (w.heap.size + 1) (edge (l.take k))) := hM
        have HZ : Hid (Mx wr w.heap.size (dg 0)) := hZ
        clear hM hZ
        by_cases hkl : k < l.length
        · have hki : (k : Int) < (l.length : Int) := by omega
          obtain ⟨b, off, f, t, kd, d, rfl, hlt, hx, c0, c1, c2, c3⟩ := HL.out.at hkl
          have hr := w4_rooms (HK.out _ (List.mem_of_getElem? hx))
          simp only at hr
          obtain ⟨fi, rfl⟩ : ∃ n : Nat, f = n := ⟨f.toNat, by omega⟩
          obtain ⟨ti, rfl⟩ : ∃ n : Nat, t = n := ⟨t.toNat, by omega⟩
          obtain ⟨_, hf5, _, ht5, _⟩ := hr
          have HX : Hid (l[k]? = some ((fi : Int), (ti : Int), kd, d)) := hx
          have hf5' : (fi : Int) < 5 := hf5
          have ht5' : (ti : Int) < 5 := ht5
          have hfn : fi < 5 := by omega
          have htn : ti < 5 := by omega
          replace c0 := (hB.cell (p := ⟨b, _, none⟩) hlt).trans c0
          replace c1 := (hB.cell (p := ⟨b, _, none⟩) hlt).trans c1
          replace c2 := (hB.cell (p := ⟨b, _, none⟩) hlt).trans c2
          replace c3 := (hB.cell (p := ⟨b, _, none⟩) hlt).trans c3
          obtain ⟨c, fz⟩ := HM.out fi ti hfn htn
          have hne1 : w.heap.size + 1 < wr.heap.size := by omega
          clear hx
          go_wp2
          go_region
          all_goals go_wp2
          all_goals go_roundw
          case rel =>
            refine ⟨k + 1, by omega, by go_num, ?_, ((HZ.out.apart (by omega) _ _).alloc (by simp; omega) _).drew, ((hB.setCell (p := ⟨w.heap.size + 1, _, none⟩) (Nat.le_succ _) _).alloc (by simp; omega) _).drew, by simp; omega⟩
            refine (((HM.out.set hfn htn).congr (fun x y _ _ => ?_)).alloc (by simp; omega) _).drew
            rw [edge_snoc (l.take k) fi ti kd d fi ti rfl rfl, ← take_snoc4 HX.out]
          case measure => simp [intOf]; omega
        · obtain rfl : k = l.length := by omega
          have hki : decide ((l.length : Int) < (l.length : Int)) = false := by simp
          have HE : Hid (Mx wr (w.heap.size + 1) (pm (edge l) 0)) := HM.out.congr (fun x y _ _ => by rw [List.take_length]; rfl)
          clear HM
          go_wp2
          rename World => wp
          go_loopw [30] (fun i wr => ∃ m : Nat, m ≤ 5 ∧ i = .int .i64 m ∧ Mx wr (w.heap.size + 1) (pm (edge l) m) ∧ Mx wr w.heap.size (dg 0) ∧ Below w.heap.size w wr ∧ w.heap.size + 2 ≤ wr.heap.size) (fun i _ => 5 - (intOf i).toNat)
          case atStart => exact ⟨0, Nat.zero_le _, rfl, HE.out, HZ.out, hB, hsz⟩
          case round =>
            clear HE HZ hB hsz
            obtain ⟨m, hm, rfl, hM, hZ, hB, hsz⟩ := hrel
            have HM : Hid (Mx wr (w.heap.size + 1) (pm (edge l) m)) := hM
            have HZ : Hid (Mx wr w.heap.size (dg 0)) := hZ
            clear hM hZ
            by_cases hm5 : m < 5
            · have hmi : (m : Int) < 5 := by omega
              go_wp2
              rename World => wq
              go_loopw [33] (fun i wr => ∃ (i' : Nat) (M : Nat → Nat → Bool), i' ≤ 5 ∧ i = .int .i64 i' ∧ Win (edge l) m i' 0 M ∧ Mx wr (w.heap.size + 1) M ∧ Mx wr w.heap.size (dg 0) ∧ Below w.heap.size w wr ∧ w.heap.size + 2 ≤ wr.heap.size) (fun i _ => 5 - (intOf i).toNat)
              case atStart => exact ⟨0, _, Nat.zero_le _, rfl, Win.start _ m, HM.out, HZ.out, hB, hsz⟩
              case round =>
                clear HM HZ hB hsz
                obtain ⟨i, M, hi, rfl, hW, hM, hZ, hB, hsz⟩ := hrel
                have HW : Hid (Win (edge l) m i 0 M) := hW
                have HM : Hid (Mx wr (w.heap.size + 1) M) := hM
                have HZ : Hid (Mx wr w.heap.size (dg 0)) := hZ
                clear hM hZ hW
                by_cases hi5 : i < 5
                · have hii : (i : Int) < 5 := by omega
                  obtain ⟨c1, _⟩ := HM.out i m hi5 hm5
                  cases h1 : M i m with
                  | false =>
                    have H1 : Hid (M i m = false) := h1
                    rw [h1] at c1
                    clear h1
                    go_wp2
                    go_roundw
                    case rel => exact ⟨i + 1, M, by omega, by go_num, HW.out.left hm5 hi5 H1.out, HM.out, HZ.out, hB, hsz⟩
                    case measure => simp [intOf]; omega
                  | true =>
                    have H1 : Hid (M i m = true) := h1
                    have c1' := c1
                    rw [h1] at c1'
                    clear h1 c1
                    go_upto_region 19 with fail
                    obtain ⟨a0, f0⟩ := HM.out i 0 hi5 (by omega)
                    obtain ⟨a1, f1⟩ := HM.out i 1 hi5 (by omega)
                    obtain ⟨a2, f2⟩ := HM.out i 2 hi5 (by omega)
                    obtain ⟨a3, f3⟩ := HM.out i 3 hi5 (by omega)
                    obtain ⟨a4, f4⟩ := HM.out i 4 hi5 (by omega)
                    obtain ⟨b0, _⟩ := HM.out m 0 hm5 (by omega)
                    obtain ⟨b1, _⟩ := HM.out m 1 hm5 (by omega)
                    obtain ⟨b2, _⟩ := HM.out m 2 hm5 (by omega)
                    obtain ⟨b3, _⟩ := HM.out m 3 hm5 (by omega)
                    obtain ⟨b4, _⟩ := HM.out m 4 hm5 (by omega)
                    replace a0 : wr.cell? ⟨w.heap.size + 1, i * 5, none⟩ = some (.bool (M i 0)) := a0
                    replace f0 : wr.frozen? ⟨w.heap.size + 1, i * 5, none⟩ = false := f0
                    replace b0 : wr.cell? ⟨w.heap.size + 1, m * 5, none⟩ = some (.bool (M m 0)) := b0
                    have hei := either_any (M i) (M m) wr.drew
                    unfold rwV at hei
                    clear c1'
                    have hlt1 : w.heap.size + 1 < wr.heap.size := by omega
                    go_region_with (go_at_call 53; refine hei.mono ?_; rintro e w1 ⟨rfl, be⟩; have k0 := (be.cell (p := ⟨w.heap.size + 1, i * 5, none⟩) hlt1).trans a0; have k1 := (be.cell (p := ⟨w.heap.size + 1, i * 5 + 1, none⟩) hlt1).trans a1; have k2 := (be.cell (p := ⟨w.heap.size + 1, i * 5 + 2, none⟩) hlt1).trans a2; have k3 := (be.cell (p := ⟨w.heap.size + 1, i * 5 + 3, none⟩) hlt1).trans a3; have k4 := (be.cell (p := ⟨w.heap.size + 1, i * 5 + 4, none⟩) hlt1).trans a4; have g0 := (be.frozen (p := ⟨w.heap.size + 1, i * 5, none⟩) hlt1).trans f0; have g1 := (be.frozen (p := ⟨w.heap.size + 1, i * 5 + 1, none⟩) hlt1).trans f1; have g2 := (be.frozen (p := ⟨w.heap.size + 1, i * 5 + 2, none⟩) hlt1).trans f2; have g3 := (be.frozen (p := ⟨w.heap.size + 1, i * 5 + 3, none⟩) hlt1).trans f3; have g4 := (be.frozen (p := ⟨w.heap.size + 1, i * 5 + 4, none⟩) hlt1).trans f4)
                    all_goals (
                      go_wp2
                      go_roundw
                      case rel =>
                        have be' : Below wr.heap.size wr w1 := ((Below.refl _ wr).drew).trans be
                        have hB1 : Below w.heap.size w w1 := hB.trans (be'.mono hB.size)
                        have hs1 := be'.size
                        refine ⟨i + 1, _, by omega, by go_num, HW.out.took hm5 hi5 H1.out, (HM.out.below be' (by omega)).row hi5 (fun y => M i y || M m y), (HZ.out.below be' (by omega)).apart5 (by omega) _ _ _ _ _ _ _ _ _ _, ?_, by simp; omega⟩
                        exact ((((hB1.setCell (p := ⟨w.heap.size + 1, _, none⟩) (Nat.le_succ _) _).setCell (p := ⟨w.heap.size + 1, _, none⟩) (Nat.le_succ _) _).setCell (p := ⟨w.heap.size + 1, _, none⟩) (Nat.le_succ _) _).setCell (p := ⟨w.heap.size + 1, _, none⟩) (Nat.le_succ _) _).setCell (p := ⟨w.heap.size + 1, _, none⟩) (Nat.le_succ _) _
                      case measure => simp [intOf]; omega)
                · obtain rfl : i = 5 := by omega
                  go_wp2
                  go_roundw
                  case rel => exact ⟨m + 1, by omega, by go_num, HM.out.congr HW.out.last, HZ.out, hB, hsz⟩
                  case measure => simp [intOf]; omega
            · obtain rfl : m = 5 := by omega
              have hrg : wr.rangeAt (w.heap.size + 1) 0 (wayCells l) := HM.out.range
              have hth : wr.there w.heap.size 0 25 := HZ.out.there
              clear HM HZ
              go_upto_region 22 with fail
              refine wp_region_lit ?_
              refine wpList_load_mid rfl 84 _ rfl (w.heap.size + 1) 0 rfl (wayCells l) _ hrg Tryd.underlying84 rfl (by kernel_rfl) ?_
              refine wpList_store_mid rfl 84 _ _ rfl w.heap.size 0 (wayCells l).toArray rfl rfl hth (by kernel_rfl) (way_one l) ?_
              have hB2 : Below w.heap.size w (wr.setCells w.heap.size 0 (wayCells l)) := below_cells hB (Nat.le_refl _) _ _
              have hr2 : (wr.setCells w.heap.size 0 (wayCells l)).rangeAt w.heap.size 0 (wayCells l) := World.rangeAt_setCells_same _ _ _ _ hth
              have hld : (loadVar 84 ⟨w.heap.size, 0, none⟩).run Tryd.prog (wr.setCells w.heap.size 0 (wayCells l)) = .ok (.agg (wayCells l).toArray) (wr.setCells w.heap.size 0 (wayCells l)) := run_loadVar_mid _ _ _ _ _ _ hr2 Tryd.underlying84 rfl (by kernel_rfl)
              rw [show (wayCells l).toArray.toList = wayCells l from rfl]
              generalize wr.setCells w.heap.size 0 (wayCells l) = wz at hB2 hr2 hld ⊢
              clear hr2 hrg hth
              go_wp2
              refine bodyPost_ret (v := .agg (wayCells l).toArray) ?_ rfl ⟨rfl, hB2⟩
              exact results_cell Tryd.results34 rfl hld
end Go.Proofs.YtfconbblnmbnpaeDoor
namespace Go.Proofs.YtfconbblnmbnpaeDoor
open Go.RowKit

set_option maxRecDepth 100000 in
theorem index_ways (l : List W4) : ∀ (a : Nat), a < 5 → ∀ w : World, (Instr.index 84 (.agg (wayCells l).toArray) (.int .i64 (a : Int))).run Tryd.prog w = .ok (.agg #[.bool (way l a 0), .bool (way l a 1), .bool (way l a 2), .bool (way l a 3), .bool (way l a 4)]) w := by
  refine five ?_ ?_ ?_ ?_ ?_ <;> exact fun _ => by kernel_rfl
end Go.Proofs.YtfconbblnmbnpaeDoor
namespace Go.Proofs.YtfconbblnmbnpaeDoor
open Go.RowKit

/-- Those below a number that reach a room, rising. -/
def ahd (l : List W4) (b : Nat) : Nat → List Int
  | 0 => []
  | k + 1 => if way l k b = true then ahd l b k ++ [(k : Int)] else ahd l b k
theorem ahd_yes {l : List W4} {b k : Nat} (h : way l k b = true) : ahd l b (k + 1) = ahd l b k ++ [(k : Int)] := by rw [ahd, if_pos h]
theorem ahd_no {l : List W4} {b k : Nat} (h : way l k b = false) : ahd l b (k + 1) = ahd l b k := by rw [ahd, if_neg (by rw [h]; simp)]
theorem ahd_len (l : List W4) (b : Nat) : ∀ k, (ahd l b k).length ≤ k
  | 0 => Nat.le_refl _
  | k + 1 => by
    have := ahd_len l b k
    rw [ahd]
    split
    · simp; omega
    · omega

set_option maxRecDepth 100000 in
set_option maxHeartbeats 4000000 in
theorem ahead_bad (l : List W4) (v : Value) (b : Int) (w : World) (hl : Wrs w v l) (h : (wschk l).2 ≠ 0) :
    Calls Tryd.prog 13 #[v, .int .i64 b] w fun e w' => e = .returned (.tuple #[.slice none 0 0, .iface 71 (.int .i64 (wschk l).2)]) ∧ Below w.heap.size w w' := by
  have hc := flcheck_any l v w hl
  obtain ⟨ao, cap, rfl⟩ := hl.form
  rw [wErr_not h] at hc
  obtain ⟨q, hq⟩ : ∃ q, q = (wschk l).2 := ⟨_, rfl⟩
  obtain ⟨p, hp⟩ : ∃ q, q = (wschk l).1 := ⟨_, rfl⟩
  rw [← hq, ← hp] at hc
  rw [← hq]
  clear hq hp h hl
  go_enter Tryd.func13, Tryd.ntmps13
  go_wp2_with (go_at_call 30; refine hc.mono ?_; rintro e w1 ⟨rfl, b1⟩; clear hc)
  go_ret2
  exact ⟨rfl, b1⟩
set_option maxRecDepth 100000 in
set_option maxHeartbeats 4000000 in
theorem ahead_out (l : List W4) (v : Value) (b : Int) (w : World) (hl : Wrs w v l) (h : (wschk l).2 = 0) (hb : ¬ (0 ≤ b ∧ b < 5)) :
    Calls Tryd.prog 13 #[v, .int .i64 b] w fun e w' => e = .returned (.tuple #[.slice none 0 0, .iface 71 (.int .i64 1)]) ∧ Below w.heap.size w w' := by
  have hc := flcheck_any l v w hl
  obtain ⟨ao, cap, rfl⟩ := hl.form
  rw [h, show wErr 0 = .nilIface from rfl] at hc
  obtain ⟨p, hp⟩ : ∃ q, q = (wschk l).1 := ⟨_, rfl⟩
  rw [← hp] at hc
  clear hp h hl
  have h1 := fun W => flroom_no b W hb
  clear hb
  go_enter Tryd.func13, Tryd.ntmps13
  go_wp2_with (first
    | (go_at_call 30; refine hc.mono ?_; rintro e w1 ⟨rfl, b1⟩; clear hc)
    | (go_at_call 33; refine (h1 _).mono ?_; rintro e w2 ⟨rfl, rfl⟩; clear h1))
  go_ret2
  exact ⟨rfl, b1⟩
set_option maxRecDepth 100000 in
set_option maxHeartbeats 4000000 in
theorem ahead_ok (l : List W4) (v : Value) (b : Nat) (w : World) (hl : Wrs w v l) (h : (wschk l).2 = 0) (hb : b < 5) :
    Calls Tryd.prog 13 #[v, .int .i64 b] w fun e w' => ∃ u, e = .returned (.tuple #[u, .nilIface]) ∧ w'.ownsRow w.heap.size 3 1 u (ahd l b 5).length (ints (ahd l b 5)) ∧ Below w.heap.size w w' := by
  obtain ⟨ii, hi, hz0, hz1, hz2⟩ := info_parts infoInt
  have hc := flcheck_any l v w hl
  have hk := wschk_ok h
  have HR : Hid (∀ w1, Below w.heap.size w w1 → Calls Tryd.prog 34 #[v] w1 fun e w' => e = .returned (.agg (wayCells l).toArray) ∧ Below w1.heap.size w1 w') := fun w1 b1 => reached_any l v w1 (hl.all b1) hk.1 hk.2
  obtain ⟨ao, cap, rfl⟩ := hl.form
  rw [h, show wErr 0 = .nilIface from rfl] at hc
  obtain ⟨p, hp⟩ : ∃ q, q = (wschk l).1 := ⟨_, rfl⟩
  rw [← hp] at hc
  clear hp h hl hk
  have h1 := fun W => flroom_yes b W (by omega) (by omega)
  have HI : Hid (∀ a : Nat, a < 5 → ∀ w : World, (Instr.index 84 (.agg (wayCells l).toArray) (.int .i64 (a : Int))).run Tryd.prog w = .ok (.agg #[.bool (way l a 0), .bool (way l a 1), .bool (way l a 2), .bool (way l a 3), .bool (way l a 4)]) w) := index_ways l
  go_enter Tryd.func13, Tryd.ntmps13
  go_wp2_with (first
    | (go_at_call 30; refine hc.mono ?_; rintro e w1 ⟨rfl, b1⟩; clear hc; have hr := HR.out w1 b1; clear HR)
    | (go_at_call 33; refine (h1 _).mono ?_; rintro e w2 ⟨rfl, rfl⟩; clear h1)
    | (go_at_call 34; refine hr.mono ?_; rintro e w4 ⟨rfl, b4⟩; clear hr))
  have bw : Below w.heap.size w w4 := b1.trans (b4.mono b1.size)
  clear b1 b4
  go_loopw [8, 25] (fun o i wr => ∃ k : Nat, k ≤ 5 ∧ i = .int .i64 k ∧ wr.ownsRow w.heap.size 3 1 o (ahd l b k).length (ints (ahd l b k)) ∧ Below w.heap.size w wr) (fun _ i _ => 5 - (intOf i).toNat)
  case atStart => exact ⟨0, Nat.zero_le _, rfl, World.ownsRow_nil _ _ _ _, bw⟩
  case round =>
    obtain ⟨k, hk, rfl, own, hB⟩ := hrel
    have hlen := ahd_len l b k
    by_cases hk5 : k < 5
    · have hki : (k : Int) < 5 := by omega
      have hix := HI.out k hk5
      have cb : ∀ (W : World), (W.alloc (.cells #[.bool (way l k 0), .bool (way l k 1), .bool (way l k 2), .bool (way l k 3), .bool (way l k 4)] 82)).cell? ⟨W.heap.size, b, none⟩ = some (.bool (way l k b)) := fun W => (Rw.new W (way l k) 82 b hb).1
      have hbi : (b : Int) < 5 := by omega
      have hsz := hB.size
      cases hwy : way l k b with
      | true =>
        have HY : Hid (ahd l b (k + 1) = ahd l b k ++ [(k : Int)]) := ahd_yes hwy
        rw [hwy] at cb
        clear hwy
        go_wp2_with (at_builtin; refine wpList_append_own _ rfl _ _ 47 rfl w.heap.size 3 ii (.int .i64 0) 1 8 Tryd.underlying47 hi hz0 hz1 hz2 rfl (by decide) _ _ _ rfl ((own.alloc _).alloc _) ⟨wr.heap.size + 1, 0, none⟩ 1 1 [.int .i64 k] rfl rfl ?c1A ?c2A ?c3A ?c4A ?c5A ?_)
        case c1A => exact one_new_at (by simp) _ _
        case c2A => exact one_one k
        case c3A => unfold maxLen; omega
        case c4A => omega
        case c5A => simp; omega
        intro v1 w2 own2 hg1 _
        have hB2 : Below w.heap.size w w2 := ((hB.alloc hB.size _).alloc (by simp; omega) _).grown hg1 (by simp; omega) (fun j hj => (own.lt j hj).1)
        have HO : Hid (w2.ownsRow w.heap.size 3 1 v1 (ahd l b (k + 1)).length (ints (ahd l b (k + 1)))) := by
          show World.ownsRow _ _ _ _ _ _ _
          rw [HY.out, ints_snoc, List.length_append]
          exact own2
        clear own own2 hg1
        go_wp2
        go_roundw
        case rel => exact ⟨k + 1, by omega, by go_num, HO.out, hB2⟩
        case measure => simp [intOf]; omega
      | false =>
        have HY : Hid (ahd l b (k + 1) = ahd l b k) := ahd_no hwy
        rw [hwy] at cb
        clear hwy
        have own2 := own.alloc (.cells #[.bool (way l k 0), .bool (way l k 1), .bool (way l k 2), .bool (way l k 3), .bool (way l k 4)] 82)
        have HO : Hid ((wr.alloc (.cells #[.bool (way l k 0), .bool (way l k 1), .bool (way l k 2), .bool (way l k 3), .bool (way l k 4)] 82)).ownsRow w.heap.size 3 1 u8 (ahd l b (k + 1)).length (ints (ahd l b (k + 1)))) := by
          show World.ownsRow _ _ _ _ _ _ _
          rw [HY.out]
          exact own2
        clear own own2
        go_wp2
        go_roundw
        case rel => exact ⟨k + 1, by omega, by go_num, HO.out, hB.alloc hsz _⟩
        case measure => simp [intOf]; omega
    · obtain rfl : k = 5 := by omega
      have HO : Hid (wr.ownsRow w.heap.size 3 1 u8 (ahd l b 5).length (ints (ahd l b 5))) := own
      obtain ⟨g, cap, rfl⟩ : ∃ g cap, u8 = .slice g (ahd l b 5).length cap := by
        rcases row_form own with ⟨h1, h2⟩ | ⟨g, cap, h1⟩
        · exact ⟨_, _, by rw [h2]; exact h1⟩
        · exact ⟨_, _, h1⟩
      clear own
      go_wp2
      go_ret2
      exact ⟨_, rfl, HO.out, hB⟩
end Go.Proofs.YtfconbblnmbnpaeDoor
namespace Go.Proofs.YtfconbblnmbnpaeDoor
open Go.RowKit

theorem ahd_has (l : List W4) (b : Nat) (i : Nat) : ∀ k, (ahd l b k).contains (i : Int) = (decide (i < k) && way l i b)
  | 0 => by simp [ahd]
  | k + 1 => by
    have ih := ahd_has l b i k
    rw [ahd]
    by_cases hik : i = k
    · subst hik
      rw [Bool.eq_iff_iff, List.contains_iff_mem]
      rw [Bool.eq_iff_iff, List.contains_iff_mem] at ih
      simp only [Nat.lt_irrefl, decide_false, Bool.false_and, Bool.false_eq_true, iff_false] at ih
      split
      · rename_i h
        simp [h]
      · rename_i h
        simp only [Bool.not_eq_true] at h
        simp [h, ih]
    · have hne : ¬ ((i : Int) = (k : Int)) := by omega
      have hd : decide (i < k + 1) = decide (i < k) := by
        by_cases h : i < k
        · simp [h, show i < k + 1 by omega]
        · simp [h, show ¬ i < k + 1 by omega]
      rw [hd, ← ih]
      split
      · rw [Bool.eq_iff_iff, List.contains_iff_mem, List.contains_iff_mem]
        simp [hne]
      · rfl
theorem ahd_some (l : List W4) (b : Nat) (hb : b < 5) : (ahd l b 5).length ≠ 0 := fun h => by
  have := ahd_has l b b 5
  rw [List.eq_nil_of_length_eq_zero h, way_self] at this
  simp [hb] at this
/-- A row and a block of another type lie apart. -/
theorem own_not {w : World} {base : Nat} {e t : TypeId} {size : Nat} {v : Value} {n kb : Nat} {xs : List Value} {cs : Array Value} {q : Nat × Nat} (h : w.ownsRow base e size v n xs) (hb : w.heap[kb]? = some (.cells cs t q)) (he : e ≠ t) : ∀ g, v.ownBlock = some g → g ≠ kb := fun g hg hgk => by
  rcases h.2 with ⟨rfl, _⟩ | ⟨g1, c1, u1, rfl, _, hb1, _⟩
  · cases hg
  · simp only [Value.ownBlock, Option.some.injEq] at hg
    subst hg
    subst hgk
    rw [hb1] at hb
    simp only [Option.some.injEq, Obj.cells.injEq] at hb
    exact he hb.2.1
set_option maxRecDepth 100000 in
set_option maxHeartbeats 4000000 in
theorem pg_no (p : PD) (vc vs vw : Value) (r : Int) (w : World) (hfm : Forms w) (hP : Pln w vc vs vw p) (hp : plchk p ≠ 0) :
    Calls Tryd.prog 10 #[plV vc p.ticks vs vw, .int .i64 r] w fun e w' => e = .returned (.tuple #[plV (.slice none 0 0) 0 (.slice none 0 0) (.slice none 0 0), wErr (plchk p)]) ∧ Below w.heap.size w w' := by
  obtain ⟨ca, cc, rfl⟩ := hP.code.form
  obtain ⟨sa, sc, rfl⟩ := hP.spans.form
  obtain ⟨wa, wc', rfl⟩ := hP.wires.form
  have hx0 := Bx.first w (.slice ca p.code.length cc) p.ticks (.slice sa p.spans.length sc) (.slice wa p.wires.length wc')
  have hA0 : Below (w.heap.size + 1) (w.alloc (.cells #[.slice ca p.code.length cc, .int .i64 p.ticks, .slice sa p.spans.length sc, .slice wa p.wires.length wc'] 26)) ((w.alloc (.cells #[.slice ca p.code.length cc, .int .i64 p.ticks, .slice sa p.spans.length sc, .slice wa p.wires.length wc'] 26)).alloc (.cells #[.slice none 0 0, .int .i64 0, .slice none 0 0, .slice none 0 0] 26)) := (Below.refl _ _).alloc (by simp) _
  generalize hWA : (w.alloc (.cells #[.slice ca p.code.length cc, .int .i64 p.ticks, .slice sa p.spans.length sc, .slice wa p.wires.length wc'] 26)).alloc (.cells #[.slice none 0 0, .int .i64 0, .slice none 0 0, .slice none 0 0] 26) = WA at hA0
  have hx1 : Bx w WA (.slice ca p.code.length cc) p.ticks (.slice sa p.spans.length sc) (.slice wa p.wires.length wc') := hA0
  have hsA : WA.heap.size = w.heap.size + 2 := by rw [← hWA]; simp
  have hZ : WA.heap[w.heap.size + 1]? = some (.cells #[.slice none 0 0, .int .i64 0, .slice none 0 0, .slice none 0 0] 26 (0, 0)) := by
    have h := World.alloc_heap_new (w.alloc (.cells #[.slice ca p.code.length cc, .int .i64 p.ticks, .slice sa p.spans.length sc, .slice wa p.wires.length wc'] 26)) (.cells #[.slice none 0 0, .int .i64 0, .slice none 0 0, .slice none 0 0] 26)
    rw [hWA, World.size_alloc] at h
    exact h
  have HZ : Hid (WA.heap[w.heap.size + 1]? = some (.cells #[.slice none 0 0, .int .i64 0, .slice none 0 0, .slice none 0 0] 26 (0, 0))) := hZ
  clear hZ
  have hc := plcheck_any p _ _ _ _ (hfm.all hx1.below) (hP.all hx1.below)
  unfold plV at hc ⊢
  rw [wErr_not hp] at hc ⊢
  generalize plchk p = ec at hc hp ⊢
  have k0 := hx1.c0
  have k1 := hx1.c1
  have k2 := hx1.c2
  have k3 := hx1.c3
  clear hP hfm hx0 hA0
  go_enter Tryd.func10, Tryd.ntmps10
  go_upto_region 1 with fail
  clear hWA
  go_wp2_with (go_at_call 12; refine hc.mono ?_; rintro e w1 ⟨rfl, b1⟩; clear hc; obtain ⟨z0, z1, z2, z3, y0, y1, y2, y3⟩ := blk4_cs ((b1.block (w.heap.size + 1) (by omega)).trans HZ.out))
  refine bodyPost_ret (v := .tuple #[.agg #[.slice none 0 0, .int .i64 0, .slice none 0 0, .slice none 0 0], .iface 71 (.int .i64 ec)]) ?_ rfl ⟨rfl, ?_⟩
  · simp [results, Tryd.results10, go_sem, z0, z1, z2, z3]
  · exact set4_below (hx1.step b1).below (w.heap.size + 1) (by omega) _ _ _ _
set_option maxRecDepth 100000 in
set_option maxHeartbeats 4000000 in
theorem pg_out (p : PD) (vc vs vw : Value) (r : Int) (w : World) (hfm : Forms w) (hP : Pln w vc vs vw p) (hp : plchk p = 0) (hr : r < 0 ∨ (p.code.length : Int) ≤ r) :
    Calls Tryd.prog 10 #[plV vc p.ticks vs vw, .int .i64 r] w fun e w' => e = .returned (.tuple #[plV (.slice none 0 0) 0 (.slice none 0 0) (.slice none 0 0), wErr 1]) ∧ Below w.heap.size w w' := by
  obtain ⟨ca, cc, rfl⟩ := hP.code.form
  obtain ⟨sa, sc, rfl⟩ := hP.spans.form
  obtain ⟨wa, wc', rfl⟩ := hP.wires.form
  have hx0 := Bx.first w (.slice ca p.code.length cc) p.ticks (.slice sa p.spans.length sc) (.slice wa p.wires.length wc')
  have hA0 : Below (w.heap.size + 1) (w.alloc (.cells #[.slice ca p.code.length cc, .int .i64 p.ticks, .slice sa p.spans.length sc, .slice wa p.wires.length wc'] 26)) ((w.alloc (.cells #[.slice ca p.code.length cc, .int .i64 p.ticks, .slice sa p.spans.length sc, .slice wa p.wires.length wc'] 26)).alloc (.cells #[.slice none 0 0, .int .i64 0, .slice none 0 0, .slice none 0 0] 26)) := (Below.refl _ _).alloc (by simp) _
  generalize hWA : (w.alloc (.cells #[.slice ca p.code.length cc, .int .i64 p.ticks, .slice sa p.spans.length sc, .slice wa p.wires.length wc'] 26)).alloc (.cells #[.slice none 0 0, .int .i64 0, .slice none 0 0, .slice none 0 0] 26) = WA at hA0
  have hx1 : Bx w WA (.slice ca p.code.length cc) p.ticks (.slice sa p.spans.length sc) (.slice wa p.wires.length wc') := hA0
  have hsA : WA.heap.size = w.heap.size + 2 := by rw [← hWA]; simp
  have hZ : WA.heap[w.heap.size + 1]? = some (.cells #[.slice none 0 0, .int .i64 0, .slice none 0 0, .slice none 0 0] 26 (0, 0)) := by
    have h := World.alloc_heap_new (w.alloc (.cells #[.slice ca p.code.length cc, .int .i64 p.ticks, .slice sa p.spans.length sc, .slice wa p.wires.length wc'] 26)) (.cells #[.slice none 0 0, .int .i64 0, .slice none 0 0, .slice none 0 0] 26)
    rw [hWA, World.size_alloc] at h
    exact h
  have HZ : Hid (WA.heap[w.heap.size + 1]? = some (.cells #[.slice none 0 0, .int .i64 0, .slice none 0 0, .slice none 0 0] 26 (0, 0))) := hZ
  clear hZ
  have hc := plcheck_any p _ _ _ _ (hfm.all hx1.below) (hP.all hx1.below)
  rw [hp] at hc
  unfold plV at hc ⊢
  unfold wErr at hc ⊢
  have hcase : decide (r < 0) = true ∨ (decide (r < 0) = false ∧ decide ((p.code.length : Int) ≤ r) = true) := by
    by_cases h : r < 0
    · exact Or.inl (decide_eq_true h)
    · exact Or.inr ⟨decide_eq_false h, decide_eq_true (hr.resolve_left h)⟩
  have k0 := hx1.c0
  have k1 := hx1.c1
  have k2 := hx1.c2
  have k3 := hx1.c3
  clear hP hfm hx0 hA0 hr hp
  rcases hcase with h1 | ⟨h1, h2⟩
  · go_enter Tryd.func10, Tryd.ntmps10
    go_upto_region 1 with fail
    clear hWA
    go_wp2_with (go_at_call 12; refine hc.mono ?_; rintro e w1 ⟨rfl, b1⟩; clear hc; obtain ⟨z0, z1, z2, z3, y0, y1, y2, y3⟩ := blk4_cs ((b1.block (w.heap.size + 1) (by omega)).trans HZ.out); have hx2 := hx1.step b1; replace k0 := hx2.c0; replace k1 := hx2.c1; replace k2 := hx2.c2; replace k3 := hx2.c3)
    refine bodyPost_ret (v := .tuple #[.agg #[.slice none 0 0, .int .i64 0, .slice none 0 0, .slice none 0 0], .iface 71 (.int .i64 1)]) ?_ rfl ⟨rfl, ?_⟩
    · simp [results, Tryd.results10, go_sem, z0, z1, z2, z3]
    · exact set4_below hx2.below (w.heap.size + 1) (by omega) _ _ _ _
  · go_enter Tryd.func10, Tryd.ntmps10
    go_upto_region 1 with fail
    clear hWA
    go_wp2_with (go_at_call 12; refine hc.mono ?_; rintro e w1 ⟨rfl, b1⟩; clear hc; obtain ⟨z0, z1, z2, z3, y0, y1, y2, y3⟩ := blk4_cs ((b1.block (w.heap.size + 1) (by omega)).trans HZ.out); have hx2 := hx1.step b1; replace k0 := hx2.c0; replace k1 := hx2.c1; replace k2 := hx2.c2; replace k3 := hx2.c3)
    refine bodyPost_ret (v := .tuple #[.agg #[.slice none 0 0, .int .i64 0, .slice none 0 0, .slice none 0 0], .iface 71 (.int .i64 1)]) ?_ rfl ⟨rfl, ?_⟩
    · simp [results, Tryd.results10, go_sem, z0, z1, z2, z3]
    · exact set4_below hx2.below (w.heap.size + 1) (by omega) _ _ _ _
set_option maxRecDepth 100000 in
set_option maxHeartbeats 16000000 in
theorem pg_ok (p : PD) (vc vs vw : Value) (r : Nat) (w : World) (hfm : Forms w) (hP : Pln w vc vs vw p) (hp : plchk p = 0) (hr : r < p.code.length) :
    Calls Tryd.prog 10 #[plV vc p.ticks vs vw, .int .i64 r] w fun e w' => ∃ ic is iw, e = .returned (.tuple #[plV ic p.ticks is iw, .nilIface]) ∧ Pln w' ic is iw (purgeP p (fun i => way p.wires i r)) ∧ Below w.heap.size w w' := by
  obtain ⟨ca, cc, rfl⟩ := hP.code.form
  obtain ⟨sa, sc, rfl⟩ := hP.spans.form
  obtain ⟨wa, wc', rfl⟩ := hP.wires.form
  have hx0 := Bx.first w (.slice ca p.code.length cc) p.ticks (.slice sa p.spans.length sc) (.slice wa p.wires.length wc')
  have hA0 : Below (w.heap.size + 1) (w.alloc (.cells #[.slice ca p.code.length cc, .int .i64 p.ticks, .slice sa p.spans.length sc, .slice wa p.wires.length wc'] 26)) ((w.alloc (.cells #[.slice ca p.code.length cc, .int .i64 p.ticks, .slice sa p.spans.length sc, .slice wa p.wires.length wc'] 26)).alloc (.cells #[.slice none 0 0, .int .i64 0, .slice none 0 0, .slice none 0 0] 26)) := (Below.refl _ _).alloc (by simp) _
  generalize hWA : (w.alloc (.cells #[.slice ca p.code.length cc, .int .i64 p.ticks, .slice sa p.spans.length sc, .slice wa p.wires.length wc'] 26)).alloc (.cells #[.slice none 0 0, .int .i64 0, .slice none 0 0, .slice none 0 0] 26) = WA at hA0
  have hx1 : Bx w WA (.slice ca p.code.length cc) p.ticks (.slice sa p.spans.length sc) (.slice wa p.wires.length wc') := hA0
  have hsA : WA.heap.size = w.heap.size + 2 := by rw [← hWA]; simp
  have hZ : WA.heap[w.heap.size + 1]? = some (.cells #[.slice none 0 0, .int .i64 0, .slice none 0 0, .slice none 0 0] 26 (0, 0)) := by
    have h := World.alloc_heap_new (w.alloc (.cells #[.slice ca p.code.length cc, .int .i64 p.ticks, .slice sa p.spans.length sc, .slice wa p.wires.length wc'] 26)) (.cells #[.slice none 0 0, .int .i64 0, .slice none 0 0, .slice none 0 0] 26)
    rw [hWA, World.size_alloc] at h
    exact h
  have HZ : Hid (WA.heap[w.heap.size + 1]? = some (.cells #[.slice none 0 0, .int .i64 0, .slice none 0 0, .slice none 0 0] 26 (0, 0))) := hZ
  clear hZ
  obtain ⟨hc5, hc0, hfz, hwz, _, _, hcz, _⟩ := plchk_zero hp
  have hsl : p.spans.length ≤ 12 := (fchk_zero hfz).2.2.1
  have hwl : p.wires.length ≤ 12 := (wschk_ok hwz).1
  have hr5 : r < 5 := by omega
  have HP : Hid (Pln w (.slice ca p.code.length cc) (.slice sa p.spans.length sc) (.slice wa p.wires.length wc') p) := hP
  have HCZ : Hid (∀ c ∈ p.code, (chk c).2 = 0) := codesE_zero hcz
  have hc := plcheck_any p _ _ _ _ (hfm.all hx1.below) (hP.all hx1.below)
  rw [hp] at hc
  unfold plV at hc ⊢
  unfold wErr at hc
  simp only [if_true] at hc
  have HAh : Hid (∀ W, Below w.heap.size w W → Calls Tryd.prog 13 #[.slice wa p.wires.length wc', .int .i64 r] W fun e w' => ∃ ag cap, e = .returned (.tuple #[.slice (some ⟨ag, 0, none⟩) (ahd p.wires r 5).length cap, .nilIface]) ∧ ag < w'.heap.size ∧ (∀ (i : Nat) y, (ahd p.wires r 5)[i]? = some y → w'.cell? ⟨ag, 0 + i, none⟩ = some (.int .i64 y)) ∧ Below W.heap.size W w') := fun W hb => by
    refine (ahead_ok p.wires _ r W (HP.out.wires.all hb) hwz hr5).mono ?_
    rintro e w' ⟨u, rfl, own, hb2⟩
    rcases row_form own with ⟨_, h2⟩ | ⟨g, cap, rfl⟩
    · exact absurd h2 (ahd_some _ _ hr5)
    · obtain ⟨_, h2, _, _, h5, _, _⟩ := own_cap own
      exact ⟨g, cap, rfl, h2, fun i y hy => by rw [Nat.zero_add]; exact h5 i _ (ints_at hy), hb2⟩
  have HL : Hid (∀ i : Nat, i < 5 → (ahd p.wires r 5).contains (i : Int) = way p.wires i r) := fun i hi => by
    rw [ahd_has]
    simp [hi]
  have hLl := ahd_len p.wires r 5
  generalize ahd p.wires r 5 = L at HAh HL hLl
  have h0 : decide ((r : Int) < 0) = false := decide_eq_false (by omega)
  have h1 : decide ((p.code.length : Int) ≤ (r : Int)) = false := decide_eq_false (by omega)
  have h1' : decide (p.code.length ≤ r) = false := decide_eq_false (by omega)
  have k0 := hx1.c0
  have k1 := hx1.c1
  have k2 := hx1.c2
  have k3 := hx1.c3
  clear hP hfm hx0 hA0 hfz hwz hcz hp
  go_enter Tryd.func10, Tryd.ntmps10
  go_upto_region 1 with fail
  clear hWA
  go_upto_region 9 with (first
    | (go_at_call 12; refine hc.mono ?_; rintro e w1 ⟨rfl, b1⟩; clear hc; have hx2 := hx1.step b1; replace k0 := hx2.c0; replace k1 := hx2.c1; replace k2 := hx2.c2; replace k3 := hx2.c3; have q2 := HAh.out w1 hx2.below; clear HAh)
    | (go_at_call 13; refine q2.mono ?_; rintro e w3 ⟨ag, acap, rfl, hag, hac, b3⟩; clear q2))
  have hx3 := hx2.step b3
  have HB3 : Hid (Below WA.heap.size WA w3) := b1.trans (b3.mono b1.size)
  have HAC : Hid (∀ (i : Nat) y, L[i]? = some y → w3.cell? ⟨ag, 0 + i, none⟩ = some (.int .i64 y)) := hac
  have hs3 : WA.heap.size ≤ w3.heap.size := HB3.out.size
  clear b1 b3 hx2 hx1 k0 k1 k2 k3 hac h0 h1 h1'
  go_cut [9] from 40 to 49 (fun s9 wx => ∃ kb sao sn scap wao wn wcap, s9 = .pointer (some ⟨kb, 0, none⟩) ∧ Below w3.heap.size w3 wx ∧ w3.heap.size ≤ kb ∧ kb < wx.heap.size ∧ wx.heap[kb]? = some (.cells #[.slice none 0 0, .int .i64 p.ticks, .slice sao sn scap, .slice wao wn wcap] 26 (0, 0)) ∧ wx.ownsRow w3.heap.size 41 3 (.slice sao sn scap) p.spans.length (spCells p.spans) ∧ wx.ownsRow w3.heap.size 58 4 (.slice wao wn wcap) p.wires.length (wrCells p.wires))
  case first =>
    have HCs : Hid (∀ W, Below w3.heap.size w3 W → Calls Tryd.prog 25 #[.slice sa p.spans.length sc] W fun e w' => ∃ ao n cap, e = .returned (.slice ao n cap) ∧ w'.ownsRow W.heap.size 41 3 (.slice ao n cap) p.spans.length (spCells p.spans) ∧ Below W.heap.size W w') := fun W hb => by
      refine (clone_sps p.spans _ W (HP.out.spans.all (hx3.step hb).below) (by omega)).mono ?_
      rintro e w' ⟨v, rfl, h1, h2⟩
      obtain ⟨ao, n, cap, rfl⟩ := own_form h1
      exact ⟨ao, n, cap, rfl, h1, h2⟩
    have HCw : Hid (∀ W, Below w3.heap.size w3 W → Calls Tryd.prog 26 #[.slice wa p.wires.length wc'] W fun e w' => ∃ ao n cap, e = .returned (.slice ao n cap) ∧ w'.ownsRow W.heap.size 58 4 (.slice ao n cap) p.wires.length (wrCells p.wires) ∧ Below W.heap.size W w') := fun W hb => by
      refine (clone_wrs p.wires _ W (HP.out.wires.all (hx3.step hb).below) (by omega)).mono ?_
      rintro e w' ⟨v, rfl, h1, h2⟩
      obtain ⟨ao, n, cap, rfl⟩ := own_form h1
      exact ⟨ao, n, cap, rfl, h1, h2⟩
    have HQ : Hid (∀ W, Below w3.heap.size w3 W → W.cell? ⟨w.heap.size, 1, none⟩ = some (.int .i64 p.ticks) ∧ W.cell? ⟨w.heap.size, 2, none⟩ = some (.slice sa p.spans.length sc) ∧ W.cell? ⟨w.heap.size, 3, none⟩ = some (.slice wa p.wires.length wc')) := fun W hb => ⟨(hx3.step hb).c1, (hx3.step hb).c2, (hx3.step hb).c3⟩
    have bcur : Below w3.heap.size w3 w3.drew := (Below.refl _ _).drew
    refine wp_region_popped (fun W => W.cell? ⟨w.heap.size, 1, none⟩ = some (.int .i64 p.ticks) ∧ W.cell? ⟨w.heap.size, 2, none⟩ = some (.slice sa p.spans.length sc) ∧ W.cell? ⟨w.heap.size, 3, none⟩ = some (.slice wa p.wires.length wc')) (by kernel_rfl) rfl (by decide +kernel) (HQ.out _ bcur) (fun hHeld => ?_)
    simp only [List.pop_toArray, List.dropLast_cons_cons, List.dropLast_singleton, List.size_toArray, List.length_cons, List.length_nil, Nat.reduceAdd, Array.replicate_succ, Array.replicate_zero, List.push_toArray, List.nil_append, List.cons_append]
    refine wpAnyH_take (i := 0) (v := ?_) rfl (by decide +kernel) (by decide +kernel) (by decide +kernel) (fun _ _ _ h => h) (Or.inl ⟨by rfl, ?_⟩) (by assumption) ?_
    rotate_left
    · intro W hSw
      try dsimp only at hSw
      obtain ⟨hS1, hS2, hS3⟩ := hSw
      go_simp
      try with_reducible rfl
    simp only [Act.put, List.setIfInBounds_toArray, List.set_cons_zero]
    refine wpAnyH_take (i := 1) (v := ?_) rfl (by decide +kernel) (by decide +kernel) (by decide +kernel) (fun _ _ _ h => h) (Or.inl ⟨by rfl, ?_⟩) (by assumption) ?_
    rotate_left
    · intro W hSw
      try dsimp only at hSw
      obtain ⟨hS1, hS2, hS3⟩ := hSw
      go_simp
      try with_reducible rfl
    simp only [Act.put, List.setIfInBounds_toArray, List.set_cons_zero, List.set_cons_succ]
    refine wpAnyH_take (i := 2) (v := ?_) rfl (by decide +kernel) (by decide +kernel) (by decide +kernel) (fun _ _ _ h => h) (Or.inl ⟨by rfl, ?_⟩) (by assumption) ?_
    rotate_left
    · intro W hSw
      try dsimp only at hSw
      obtain ⟨hS1, hS2, hS3⟩ := hSw
      go_simp
      try with_reducible rfl
    simp only [Act.put, List.setIfInBounds_toArray, List.set_cons_zero, List.set_cons_succ]
    refine wpAnyH_take (i := 3) (v := ?_) rfl (by decide +kernel) (by decide +kernel) (by decide +kernel) (fun _ _ _ h => h) (Or.inl ⟨by rfl, ?_⟩) (by assumption) ?_
    rotate_left
    · intro W hSw
      try dsimp only at hSw
      obtain ⟨hS1, hS2, hS3⟩ := hSw
      go_simp
      try with_reducible rfl
    simp only [Act.put, List.setIfInBounds_toArray, List.set_cons_zero, List.set_cons_succ]
    refine wpAnyH_take (i := 5) (v := ?_) rfl (by decide +kernel) (by decide +kernel) (by decide +kernel) (fun _ _ _ h => h) (Or.inl ⟨by rfl, ?_⟩) (by assumption) ?_
    rotate_left
    · intro W hSw
      try dsimp only at hSw
      obtain ⟨hS1, hS2, hS3⟩ := hSw
      go_simp
      try with_reducible rfl
    simp only [Act.put, List.setIfInBounds_toArray, List.set_cons_zero, List.set_cons_succ]
    refine wpAnyH_take (i := 6) (v := ?_) rfl (by decide +kernel) (by decide +kernel) (by decide +kernel) (fun _ _ _ h => h) (Or.inl ⟨by rfl, ?_⟩) (by assumption) ?_
    rotate_left
    · intro W hSw
      try dsimp only at hSw
      obtain ⟨hS1, hS2, hS3⟩ := hSw
      go_simp
      try with_reducible rfl
    simp only [Act.put, List.setIfInBounds_toArray, List.set_cons_zero, List.set_cons_succ]
    generalize w3.drew = wD at bcur hHeld ⊢
    refine wpAnyH_ready (rs := [4, 9]) (by decide +kernel) (by simp) ?_
    refine AllReadyH.cons (o := _) rfl (fun K hK => ?_) (AllReadyH.cons (o := _) rfl (fun K hK => ?_) AllReadyH.nil)
    · go_simp
      go_at_call 25
      refine (HCs.out _ bcur).mono ?_
      rintro e wS ⟨sao, sn, scap, rfl, hs, bN⟩
      replace hs := own_base hs bcur.size
      replace bcur := bcur.trans (bN.mono bcur.size)
      clear bN
      go_wp2_with fail
      refine hK.out _ _ (HQ.out _ bcur) (fun hHeld => ?_)
      clear hK K
      simp only [List.setIfInBounds_toArray, List.set_cons_zero, List.set_cons_succ]
      refine wpAnyH_ready (rs := [7, 9]) (by decide +kernel) (by simp) ?_
      refine AllReadyH.cons (o := _) rfl (fun K hK => ?_) (AllReadyH.cons (o := _) rfl (fun K hK => ?_) AllReadyH.nil)
      · go_simp
        go_at_call 26
        refine (HCw.out _ bcur).mono ?_
        rintro e wWS ⟨wao, wn, wcap, rfl, hw, bN⟩
        replace hw := own_base hw bcur.size
        replace hs := own_below hs bN (Nat.le_refl _)
        replace bcur := bcur.trans (bN.mono bcur.size)
        clear bN
        go_wp2_with fail
        refine hK.out _ _ (HQ.out _ bcur) (fun hHeld => ?_)
        clear hK K
        simp only [List.setIfInBounds_toArray, List.set_cons_zero, List.set_cons_succ]
        refine wpAnyH_take (i := 8) (v := ?_) rfl (by decide +kernel) (by decide +kernel) (by decide +kernel) (fun _ _ _ h => h) (Or.inl ⟨by rfl, ?_⟩) (by assumption) ?_
        rotate_left
        · intro W hSw
          try dsimp only at hSw
          obtain ⟨hS1, hS2, hS3⟩ := hSw
          go_simp
          try with_reducible rfl
        simp only [Act.put, List.setIfInBounds_toArray, List.set_cons_zero, List.set_cons_succ]
        refine wpAnyH_ready (rs := [9]) (by decide +kernel) (by simp) ?_
        refine AllReadyH.cons (o := _) rfl (fun K hK => ?_) AllReadyH.nil
        go_simp
        have bN : Below (wWS).heap.size (wWS) ((wWS).alloc (.cells #[.slice none 0 0, .int .i64 0, .slice none 0 0, .slice none 0 0] 26)) := (Below.refl _ _).alloc (Nat.le_refl _) _
        have hblk : ((wWS).alloc (.cells #[.slice none 0 0, .int .i64 0, .slice none 0 0, .slice none 0 0] 26)).heap[(wWS).heap.size]? = some (.cells #[.slice none 0 0, .int .i64 0, .slice none 0 0, .slice none 0 0] 26 (0, 0)) := World.alloc_heap_new _ _
        have hkb : (wWS).heap.size < ((wWS).alloc (.cells #[.slice none 0 0, .int .i64 0, .slice none 0 0, .slice none 0 0] 26)).heap.size := by simp
        have hk3 : w3.heap.size ≤ (wWS).heap.size := bcur.size
        replace hs := own_below hs bN (Nat.le_refl _)
        replace hw := own_below hw bN (Nat.le_refl _)
        replace bcur := bcur.trans (bN.mono bcur.size)
        clear bN
        refine hK.out _ _ (HQ.out _ bcur) (fun hHeld => ?_)
        clear hK K
        simp only [List.setIfInBounds_toArray, List.set_cons_zero, List.set_cons_succ]
        generalize (wWS).alloc (.cells #[.slice none 0 0, .int .i64 0, .slice none 0 0, .slice none 0 0] 26) = wASW at hblk hkb bcur hs hw hHeld ⊢
        generalize (wWS).heap.size = kb at hblk hkb hk3 ⊢
        obtain ⟨z0, z1, z2, z3, y0, y1, y2, y3⟩ := blk4_cs hblk
        refine wpAnyH_done (by decide +kernel) ?_ _
        show Oper.wp _ _ _ _ _ _
        go_simp
        go_wp2_with fail
        go_meet
        case rel =>
          have hs2 : ∀ g, (Value.slice sao sn scap).ownBlock = some g → g ≠ kb := own_not hs hblk (by decide)
          have hw2 : ∀ g, (Value.slice wao wn wcap).ownBlock = some g → g ≠ kb := own_not hw hblk (by decide)
          have ht := set4_touch wASW kb (.slice none 0 0) (.int .i64 p.ticks) (.slice sao sn scap) (.slice wao wn wcap)
          exact ⟨kb, sao, sn, scap, wao, wn, wcap, rfl, set4_below bcur kb hk3 _ _ _ _, hk3, by simpa using hkb, set4_blk hblk, own_block hs (fun g hg => ht.block g (hs.lt g hg).2 (by simpa using hs2 g hg)), own_block hw (fun g hg => ht.block g (hw.lt g hg).2 (by simpa using hw2 g hg))⟩
      · go_simp
        have bN : Below (wS).heap.size (wS) ((wS).alloc (.cells #[.slice none 0 0, .int .i64 0, .slice none 0 0, .slice none 0 0] 26)) := (Below.refl _ _).alloc (Nat.le_refl _) _
        have hblk : ((wS).alloc (.cells #[.slice none 0 0, .int .i64 0, .slice none 0 0, .slice none 0 0] 26)).heap[(wS).heap.size]? = some (.cells #[.slice none 0 0, .int .i64 0, .slice none 0 0, .slice none 0 0] 26 (0, 0)) := World.alloc_heap_new _ _
        have hkb : (wS).heap.size < ((wS).alloc (.cells #[.slice none 0 0, .int .i64 0, .slice none 0 0, .slice none 0 0] 26)).heap.size := by simp
        have hk3 : w3.heap.size ≤ (wS).heap.size := bcur.size
        replace hs := own_below hs bN (Nat.le_refl _)
        replace bcur := bcur.trans (bN.mono bcur.size)
        clear bN
        refine hK.out _ _ (HQ.out _ bcur) (fun hHeld => ?_)
        clear hK K
        simp only [List.setIfInBounds_toArray, List.set_cons_zero, List.set_cons_succ]
        generalize (wS).alloc (.cells #[.slice none 0 0, .int .i64 0, .slice none 0 0, .slice none 0 0] 26) = wAS at hblk hkb bcur hs hHeld ⊢
        generalize (wS).heap.size = kb at hblk hkb hk3 ⊢
        refine wpAnyH_ready (rs := [7]) (by decide +kernel) (by simp) ?_
        refine AllReadyH.cons (o := _) rfl (fun K hK => ?_) AllReadyH.nil
        go_simp
        go_at_call 26
        refine (HCw.out _ bcur).mono ?_
        rintro e wWSA ⟨wao, wn, wcap, rfl, hw, bN⟩
        replace hw := own_base hw bcur.size
        replace hs := own_below hs bN (Nat.le_refl _)
        replace hblk := (bN.block kb hkb).trans hblk
        replace hkb := Nat.lt_of_lt_of_le hkb bN.size
        replace bcur := bcur.trans (bN.mono bcur.size)
        clear bN
        go_wp2_with fail
        refine hK.out _ _ (HQ.out _ bcur) (fun hHeld => ?_)
        clear hK K
        simp only [List.setIfInBounds_toArray, List.set_cons_zero, List.set_cons_succ]
        refine wpAnyH_take (i := 8) (v := ?_) rfl (by decide +kernel) (by decide +kernel) (by decide +kernel) (fun _ _ _ h => h) (Or.inl ⟨by rfl, ?_⟩) (by assumption) ?_
        rotate_left
        · intro W hSw
          try dsimp only at hSw
          obtain ⟨hS1, hS2, hS3⟩ := hSw
          go_simp
          try with_reducible rfl
        simp only [Act.put, List.setIfInBounds_toArray, List.set_cons_zero, List.set_cons_succ]
        obtain ⟨z0, z1, z2, z3, y0, y1, y2, y3⟩ := blk4_cs hblk
        refine wpAnyH_done (by decide +kernel) ?_ _
        show Oper.wp _ _ _ _ _ _
        go_simp
        go_wp2_with fail
        go_meet
        case rel =>
          have hs2 : ∀ g, (Value.slice sao sn scap).ownBlock = some g → g ≠ kb := own_not hs hblk (by decide)
          have hw2 : ∀ g, (Value.slice wao wn wcap).ownBlock = some g → g ≠ kb := own_not hw hblk (by decide)
          have ht := set4_touch wWSA kb (.slice none 0 0) (.int .i64 p.ticks) (.slice sao sn scap) (.slice wao wn wcap)
          exact ⟨kb, sao, sn, scap, wao, wn, wcap, rfl, set4_below bcur kb hk3 _ _ _ _, hk3, by simpa using hkb, set4_blk hblk, own_block hs (fun g hg => ht.block g (hs.lt g hg).2 (by simpa using hs2 g hg)), own_block hw (fun g hg => ht.block g (hw.lt g hg).2 (by simpa using hw2 g hg))⟩
    · go_simp
      have bN : Below (wD).heap.size (wD) ((wD).alloc (.cells #[.slice none 0 0, .int .i64 0, .slice none 0 0, .slice none 0 0] 26)) := (Below.refl _ _).alloc (Nat.le_refl _) _
      have hblk : ((wD).alloc (.cells #[.slice none 0 0, .int .i64 0, .slice none 0 0, .slice none 0 0] 26)).heap[(wD).heap.size]? = some (.cells #[.slice none 0 0, .int .i64 0, .slice none 0 0, .slice none 0 0] 26 (0, 0)) := World.alloc_heap_new _ _
      have hkb : (wD).heap.size < ((wD).alloc (.cells #[.slice none 0 0, .int .i64 0, .slice none 0 0, .slice none 0 0] 26)).heap.size := by simp
      have hk3 : w3.heap.size ≤ (wD).heap.size := bcur.size
      replace bcur := bcur.trans (bN.mono bcur.size)
      clear bN
      refine hK.out _ _ (HQ.out _ bcur) (fun hHeld => ?_)
      clear hK K
      simp only [List.setIfInBounds_toArray, List.set_cons_zero, List.set_cons_succ]
      generalize (wD).alloc (.cells #[.slice none 0 0, .int .i64 0, .slice none 0 0, .slice none 0 0] 26) = wA at hblk hkb bcur  hHeld ⊢
      generalize (wD).heap.size = kb at hblk hkb hk3 ⊢
      refine wpAnyH_ready (rs := [4]) (by decide +kernel) (by simp) ?_
      refine AllReadyH.cons (o := _) rfl (fun K hK => ?_) AllReadyH.nil
      go_simp
      go_at_call 25
      refine (HCs.out _ bcur).mono ?_
      rintro e wSA ⟨sao, sn, scap, rfl, hs, bN⟩
      replace hs := own_base hs bcur.size
      replace hblk := (bN.block kb hkb).trans hblk
      replace hkb := Nat.lt_of_lt_of_le hkb bN.size
      replace bcur := bcur.trans (bN.mono bcur.size)
      clear bN
      go_wp2_with fail
      refine hK.out _ _ (HQ.out _ bcur) (fun hHeld => ?_)
      clear hK K
      simp only [List.setIfInBounds_toArray, List.set_cons_zero, List.set_cons_succ]
      refine wpAnyH_ready (rs := [7]) (by decide +kernel) (by simp) ?_
      refine AllReadyH.cons (o := _) rfl (fun K hK => ?_) AllReadyH.nil
      go_simp
      go_at_call 26
      refine (HCw.out _ bcur).mono ?_
      rintro e wWAS ⟨wao, wn, wcap, rfl, hw, bN⟩
      replace hw := own_base hw bcur.size
      replace hblk := (bN.block kb hkb).trans hblk
      replace hkb := Nat.lt_of_lt_of_le hkb bN.size
      replace hs := own_below hs bN (Nat.le_refl _)
      replace bcur := bcur.trans (bN.mono bcur.size)
      clear bN
      go_wp2_with fail
      refine hK.out _ _ (HQ.out _ bcur) (fun hHeld => ?_)
      clear hK K
      simp only [List.setIfInBounds_toArray, List.set_cons_zero, List.set_cons_succ]
      refine wpAnyH_take (i := 8) (v := ?_) rfl (by decide +kernel) (by decide +kernel) (by decide +kernel) (fun _ _ _ h => h) (Or.inl ⟨by rfl, ?_⟩) (by assumption) ?_
      rotate_left
      · intro W hSw
        try dsimp only at hSw
        obtain ⟨hS1, hS2, hS3⟩ := hSw
        go_simp
        try with_reducible rfl
      simp only [Act.put, List.setIfInBounds_toArray, List.set_cons_zero, List.set_cons_succ]
      obtain ⟨z0, z1, z2, z3, y0, y1, y2, y3⟩ := blk4_cs hblk
      refine wpAnyH_done (by decide +kernel) ?_ _
      show Oper.wp _ _ _ _ _ _
      go_simp
      go_wp2_with fail
      go_meet
      case rel =>
        have hs2 : ∀ g, (Value.slice sao sn scap).ownBlock = some g → g ≠ kb := own_not hs hblk (by decide)
        have hw2 : ∀ g, (Value.slice wao wn wcap).ownBlock = some g → g ≠ kb := own_not hw hblk (by decide)
        have ht := set4_touch wWAS kb (.slice none 0 0) (.int .i64 p.ticks) (.slice sao sn scap) (.slice wao wn wcap)
        exact ⟨kb, sao, sn, scap, wao, wn, wcap, rfl, set4_below bcur kb hk3 _ _ _ _, hk3, by simpa using hkb, set4_blk hblk, own_block hs (fun g hg => ht.block g (hs.lt g hg).2 (by simpa using hs2 g hg)), own_block hw (fun g hg => ht.block g (hw.lt g hg).2 (by simpa using hw2 g hg))⟩
  case rest =>
  obtain ⟨kb, sao, sn, scap, wao, wn, wcap, rfl, hbx, hkb0, hkb1, hblk, hsr, hwr⟩ := hcut
  generalize wc = W0 at *
  have hx4 := hx3.step hbx
  have k0 := hx4.c0
  have hst : QP w.heap.size W0 W0 p (fun i => way p.wires i r) kb (.slice sao sn scap) (.slice wao wn wcap) (.slice none 0 0) [] :=
    ⟨KTouch.refl _ _, hkb1, by omega, hblk, World.ownsRow_nil _ _ _ _, fun i u c h => (by simp at h), fun u hu => (by cases hu), Nat.zero_le _⟩
  have HSR : Hid (W0.ownsRow w3.heap.size 41 3 (.slice sao sn scap) p.spans.length (spCells p.spans) ∧ ∀ g, (Value.slice sao sn scap).ownBlock = some g → g ≠ kb) := ⟨hsr, own_not hsr hblk (by decide)⟩
  have HWR : Hid (W0.ownsRow w3.heap.size 58 4 (.slice wao wn wcap) p.wires.length (wrCells p.wires) ∧ ∀ g, (Value.slice wao wn wcap).ownBlock = some g → g ≠ kb) := ⟨hwr, own_not hwr hblk (by decide)⟩
  have HBX : Hid (Below w3.heap.size w3 W0) := hbx
  have hsz0 : w3.heap.size ≤ W0.heap.size := hbx.size
  have hxs := hx3.size
  clear hsr hwr hblk hbx
  obtain ⟨jj, hj, hy0, hy1, hy2⟩ := info_parts infoOps
  go_upto_region 11 with fail
  go_loopw [52] (fun i wr => ∃ us vo vn vk, i = .int .i64 (us.length : Nat) ∧ QP w.heap.size W0 wr p (fun i => way p.wires i r) kb (.slice sao sn scap) (.slice wao wn wcap) (.slice vo vn vk) us) (fun i _ => p.code.length - (intOf i).toNat)
  case atStart => exact ⟨[], none, 0, 0, rfl, hst⟩
  case round =>
    clear hst k0
    obtain ⟨us, vo, vn, vk, rfl, hq⟩ := hrel
    have hlen := hq.len
    have htk := hq.tk
    have hszr := htk.size
    have hbw : Below w.heap.size w wr := hx4.below.trans (htk.below (fun m hm => by rw [List.mem_singleton] at hm; omega) (by omega))
    by_cases hkl : us.length < p.code.length
    · have hki : (us.length : Int) < (p.code.length : Int) := by omega
      obtain ⟨cb, co, ua, un, ug, c, rfl, hclt, hcy, hcd, rfl, hops⟩ := HP.out.code.at hkl
      replace hcd := (hbw.cell (p := ⟨cb, _, none⟩) hclt).trans hcd
      have HCY : Hid (p.code[us.length]? = some c) := hcy
      have hcl : c.length ≤ 20 := (chk_zero (HCZ.out c (List.mem_of_getElem? hcy))).2.1
      have HOP : Hid (∀ W, Below wr.heap.size wr W → Ops W (.slice ua c.length ug) c) := fun W hb => hops.all (hbw.trans (hb.mono hbw.size))
      have hagn : wr.heap[ag]? = w3.heap[ag]? := (htk.block ag (by omega) (by simp; omega)).trans (HBX.out.block ag hag)
      have HHas : Hid (Calls Tryd.prog 27 #[.slice (some ⟨ag, 0, none⟩) L.length acap, .int .i64 us.length] wr fun e w' => e = .returned (.bool (way p.wires us.length r)) ∧ wr = w') := by
        have h := contains_ints L us.length ag 0 acap wr (by omega) (fun i y hy => (World.cell?_of_block (w := w3) (a := ⟨ag, 0 + i, none⟩) hagn).trans (HAC.out i y hy))
        rw [HL.out us.length (by omega)] at h
        exact h.mono (fun e w' h => ⟨h.1, h.2.symm⟩)
      have HQ : Hid (QP w.heap.size W0 wr p (fun i => way p.wires i r) kb (.slice sao sn scap) (.slice wao wn wcap) (.slice vo vn vk) us) := hq
      obtain ⟨c0, _, _, _, f0⟩ := hq.cs
      have hown0 := hq.own
      have hkr : kb < wr.heap.size := by omega
      clear hq hops hcy hbw htk hagn
      cases hway : way p.wires us.length r with
      | true =>
        rw [hway] at HHas
        have HWY : Hid (way p.wires us.length r = true) := hway
        clear hway
        have HCl : Hid (∀ W, Below wr.heap.size wr W → Calls Tryd.prog 28 #[.slice ua c.length ug] W fun e w' => ∃ ao n cap, e = .returned (.slice ao n cap) ∧ w'.ownsRow W.heap.size 38 3 (.slice ao n cap) c.length (spCells c) ∧ Below W.heap.size W w') := fun W hb => by
          refine (clone_ops c _ W (HOP.out W hb) (by omega)).mono ?_
          rintro e w' ⟨v, rfl, h1, h2⟩
          obtain ⟨ao, n, cap, rfl⟩ := own_form h1
          exact ⟨ao, n, cap, rfl, h1, h2⟩
        have bQ : Below wr.heap.size wr wr.drew := (Below.refl _ _).drew
        go_upto_region 14 with (go_at_call 27; refine HHas.out.mono ?_; rintro e w4 ⟨rfl, rfl⟩)
        refine wp_region_popped (fun W => W.cell? ⟨kb, 0, none⟩ = some (.slice vo vn vk)) (by kernel_rfl) rfl (by decide +kernel) c0 (fun hHeld => ?_)
        simp only [List.pop_toArray, List.dropLast_cons_cons, List.dropLast_singleton, List.size_toArray, List.length_cons, List.length_nil, Nat.reduceAdd, Array.replicate_succ, Array.replicate_zero, List.push_toArray, List.nil_append, List.cons_append]
        refine wpAnyH_take (i := 0) (v := ?_) rfl (by decide +kernel) (by decide +kernel) (by decide +kernel) (fun _ _ _ h => h) (Or.inl ⟨by rfl, ?_⟩) (by assumption) ?_
        rotate_left
        · intro W hSw
          try dsimp only at hSw
          go_simp
          try with_reducible rfl
        simp only [Act.put, List.setIfInBounds_toArray, List.set_cons_zero]
        refine wpAnyH_take (i := 1) (v := ?_) rfl (by decide +kernel) (by decide +kernel) (by decide +kernel) (fun _ _ _ h => h) (Or.inl ⟨by rfl, ?_⟩) (by assumption) ?_
        rotate_left
        · intro W hSw
          try dsimp only at hSw
          go_simp
          try with_reducible rfl
        simp only [Act.put, List.setIfInBounds_toArray, List.set_cons_zero, List.set_cons_succ]
        refine wpAnyH_take (i := 2) (v := ?_) rfl (by decide +kernel) (by decide +kernel) (by decide +kernel) (fun _ _ _ h => h) (Or.inl ⟨by rfl, ?_⟩) (by assumption) ?_
        rotate_left
        · intro W hSw
          try dsimp only at hSw
          go_simp
          try with_reducible rfl
        simp only [Act.put, List.setIfInBounds_toArray, List.set_cons_zero, List.set_cons_succ]
        refine wpAnyH_ready (rs := [3]) (by decide +kernel) (by simp) ?_
        refine AllReadyH.cons (o := _) rfl (fun K hK => ?_) AllReadyH.nil
        go_simp
        go_at_call 28
        refine (HCl.out _ bQ).mono ?_
        rintro e w8 ⟨ao, n8, cap8, rfl, hown8, b8⟩
        have hown8' := hown8
        replace b8 := bQ.trans (b8.mono (Nat.le_refl _))
        have s8 : w8.cell? ⟨kb, 0, none⟩ = some (.slice vo vn vk) := (b8.cell (p := ⟨kb, 0, none⟩) hkr).trans c0
        go_wp2_with fail
        refine hK.out _ _ s8 (fun hHeld => ?_)
        clear hK K
        simp only [List.setIfInBounds_toArray, List.set_cons_zero, List.set_cons_succ]
        refine wpAnyH_ready (rs := [4]) (by decide +kernel) (by simp) ?_
        refine AllReadyH.cons (o := _) rfl (fun K hK => ?_) AllReadyH.nil
        go_simp
        have b9 : Below wr.heap.size wr (w8.alloc (.cells #[.slice ao n8 cap8] 39)) := b8.alloc b8.size _
        have s9 : (w8.alloc (.cells #[.slice ao n8 cap8] 39)).cell? ⟨kb, 0, none⟩ = some (.slice vo vn vk) := (b9.cell (p := ⟨kb, 0, none⟩) hkr).trans c0
        refine hK.out _ _ s9 (fun hHeld => ?_)
        clear hK K
        simp only [List.setIfInBounds_toArray, List.set_cons_zero, List.set_cons_succ]
        refine wpAnyH_ready (rs := [5]) (by decide +kernel) (by simp) ?_
        refine AllReadyH.cons (o := _) rfl (fun K hK => ?_) AllReadyH.nil
        obtain ⟨iT, hiT, hz1, hz2, hz3⟩ := info3 infoOps
        have hro9 := own_below hown0 b9 (Nat.le_refl _)
        have hs09 : W0.heap.size ≤ (w8.alloc (.cells #[.slice ao n8 cap8] 39)).heap.size := Nat.le_trans hszr b9.size
        obtain ⟨cv2, wa9, hra, hown9, hgr9, hnw9⟩ := run_append_at (P := Tryd.prog) (w8.alloc (.cells #[.slice ao n8 cap8] 39)) 22 22 W0.heap.size 39 iT _ 1 24 (by kernel_rfl) hiT hz1 hz2 hz3 rfl (by decide) (.slice vo vn vk) us.length us hro9 ⟨w8.heap.size, 0, none⟩ 1 1 [.slice ao n8 cap8] rfl (one_new_at rfl _ _) (by simp [Value.oneCell']) (by have : maxLen = 9223372036854775807 := rfl; omega) (by omega) hs09
        clear hiT hz1 hz2 hz3
        obtain ⟨gv, ck, rfl⟩ : ∃ g cap, cv2 = .slice (some ⟨g, 0, none⟩) (us.length + 1) cap := own_succ hown9
        have hcr : ∀ k, (Value.slice vo vn vk).ownBlock = some k → W0.heap.size ≤ k := fun k hk => (hown0.lt k hk).1
        have hblk9 : wa9.heap[kb]? = wr.heap[kb]? := (hgr9.block kb (Nat.lt_of_lt_of_le hkr b9.size) (fun e => by have := hcr kb e.symm; omega)).trans (b9.block kb hkr)
        have s10 : wa9.cell? ⟨kb, 0, none⟩ = some (.slice vo vn vk) := (World.cell?_of_block (w := wr) (a := ⟨kb, 0, none⟩) hblk9).trans c0
        have f10 : wa9.frozen? ⟨kb, 0, none⟩ = false := (World.frozen?_of_block (w := wr) (a := ⟨kb, 0, none⟩) hblk9).trans f0
        have HM : Hid (QP w.heap.size W0 (wa9.setCell ⟨kb, 0, none⟩ (.slice (some ⟨gv, 0, none⟩) (us.length + 1) ck)) p (fun i => way p.wires i r) kb (.slice sao sn scap) (.slice wao wn wcap) (.slice (some ⟨gv, 0, none⟩) (us.length + 1) ck) (us ++ [.slice ao n8 cap8])) := HQ.out.more HCY.out b8 (by simp only [HWY.out, if_true]; exact gops_own hown8) (fun g hg => ⟨Or.inr (by have h := (hown8.lt g hg).1; exact h), (hown8.lt g hg).2⟩) hgr9 hown9 (fun g hg => by have := hnw9 g hg; simpa using this)
        refine step_append_eq rfl (.tmp 61) (.tmp 64) 22 rfl (.slice vo vn vk) (.slice (some ⟨w8.heap.size, 0, none⟩) 1 1) rfl rfl (.slice (some ⟨gv, 0, none⟩) (us.length + 1) ck) wa9 hra ?_
        refine hK.out _ _ s10 (fun hHeld => ?_)
        clear hK K
        simp only [Act.put, List.setIfInBounds_toArray, List.set_cons_zero, List.set_cons_succ]
        refine wpAnyH_take (i := 6) (v := ?_) rfl (by decide +kernel) (by decide +kernel) (by decide +kernel) (fun _ _ _ h => h) (Or.inl ⟨by rfl, ?_⟩) (by assumption) ?_
        rotate_left
        · intro W hSw
          try dsimp only at hSw
          go_simp
          try with_reducible rfl
        simp only [Act.put, List.setIfInBounds_toArray, List.set_cons_zero, List.set_cons_succ]
        refine wpAnyH_done (by decide +kernel) ?_ _
        show Oper.wp _ _ _ _ _ _
        go_simp
        clear hra hown9 hgr9 hnw9 s8 s9 s10 f10 hHeld b8 b9 hown8 hown8' hro9 hs09 hblk9 c0 f0 hcd HCl hcr HQ bQ
        generalize wa9.setCell ⟨kb, 0, none⟩ (.slice (some ⟨gv, 0, none⟩) (us.length + 1) ck) = W9 at HM ⊢
        go_wp2
        go_roundw
        case rel => exact ⟨us ++ [.slice ao n8 cap8], _, _, _, by rw [List.length_append, List.length_singleton]; go_num, HM.out⟩
        case measure => simp [intOf]; omega
      | false =>
        rw [hway] at HHas
        have HWY : Hid (way p.wires us.length r = false) := hway
        have hnk : wr.heap.size ≠ kb := by omega
        have qc2 : (wr.alloc (.cells #[.int .i64 10, .int .i64 0, .int .i64 0] 38)).cell? ⟨kb, 0, none⟩ = some (.slice vo vn vk) := (((Below.refl wr.heap.size wr).alloc (Nat.le_refl _) _).cell (p := ⟨kb, 0, none⟩) (show kb < wr.heap.size by omega)).trans c0
        clear hway
        go_wp2_with (first
          | (go_at_call 27; refine HHas.out.mono ?_; rintro e w4 ⟨rfl, rfl⟩)
          | (at_builtin; refine wpList_append_at _ rfl _ _ 22 rfl W0.heap.size 39 jj _ 1 24 Tryd.underlying22 hj hy0 hy1 hy2 rfl (by decide) _ _ _ rfl ((hown0.alloc _).alloc _) ⟨wr.heap.size + 1, 0, none⟩ 1 1 [.slice (some ⟨wr.heap.size, 0, none⟩) 1 1] rfl rfl ?c1A ?c2A ?c3A ?c4A ?c5A ?_))
        case c1A => exact one_new_at (by simp) _ _
        case c2A => intro u hu; simp at hu; subst hu; rfl
        case c3A => unfold maxLen; omega
        case c4A => omega
        case c5A => simp; omega
        intro v1 w8 own8 hg8 hnw8
        have hk8 : w8.heap[kb]? = wr.heap[kb]? := (hg8.block kb (by simp; omega) (fun e => by have := (hown0.lt kb e.symm).1; omega)).trans ((((Below.refl wr.heap.size wr).alloc (Nat.le_refl _) _).alloc (by simp) _).block _ (by omega))
        have s8 : w8.cell? ⟨kb, 0, none⟩ = some (.slice vo vn vk) := (World.cell?_of_block (w := wr) (a := ⟨kb, 0, none⟩) hk8).trans c0
        have g8 : w8.frozen? ⟨kb, 0, none⟩ = false := (World.frozen?_of_block (w := wr) (a := ⟨kb, 0, none⟩) hk8).trans f0
        obtain ⟨gb, cap8, rfl⟩ := own_succ own8
        have HM : Hid (QP w.heap.size W0 (w8.setCell ⟨kb, 0, none⟩ (.slice (some ⟨gb, 0, none⟩) (us.length + 1) cap8)) p (fun i => way p.wires i r) kb (.slice sao sn scap) (.slice wao wn wcap) (.slice (some ⟨gb, 0, none⟩) (us.length + 1) cap8) (us ++ [.slice (some ⟨wr.heap.size, 0, none⟩) 1 1])) := HQ.out.more HCY.out ((Below.refl _ _).alloc (Nat.le_refl _) _) (by simp only [HWY.out, Bool.false_eq_true, if_false]; exact rest_ops rfl) (fun g hg => by simp only [Value.ownBlock, Option.some.injEq] at hg; subst hg; exact ⟨Or.inr (Nat.le_refl _), by simp⟩) hg8 own8 (fun g hg => by have := hnw8 g hg; simpa using this)
        clear own8 hg8 hnw8 hown0 hk8
        go_wp2
        go_roundw
        case rel => exact ⟨us ++ [.slice (some ⟨wr.heap.size, 0, none⟩) 1 1], _, _, _, by rw [List.length_append, List.length_singleton]; go_num, HM.out⟩
        case measure => simp [intOf]; omega
    · have hul : us.length = p.code.length := by omega
      have hki : decide ((us.length : Int) < (p.code.length : Int)) = false := decide_eq_false (by omega)
      have hki' : decide (us.length < p.code.length) = false := decide_eq_false (by omega)
      obtain ⟨q0, q1, q2, q3, _⟩ := hq.cs
      have hzb : wr.heap[w.heap.size + 1]? = some (.cells #[.slice none 0 0, .int .i64 0, .slice none 0 0, .slice none 0 0] 26 (0, 0)) := (htk.block (w.heap.size + 1) (by omega) (by simp; omega)).trans ((HBX.out.block (w.heap.size + 1) (by omega)).trans ((HB3.out.block (w.heap.size + 1) (by omega)).trans HZ.out))
      obtain ⟨z0, z1, z2, z3, y0, y1, y2, y3⟩ := blk4_cs hzb
      have HQ : Hid (QP w.heap.size W0 wr p (fun i => way p.wires i r) kb (.slice sao sn scap) (.slice wao wn wcap) (.slice vo vn vk) us) := hq
      have hne : kb ≠ w.heap.size + 1 := by omega
      clear hq htk hzb
      go_wp2
      refine bodyPost_ret (v := .tuple #[plV (.slice vo vn vk) p.ticks (.slice sao sn scap) (.slice wao wn wcap), .nilIface]) ?_ rfl ⟨_, _, _, rfl, ?_, ?_⟩
      · simp [results, Tryd.results10, go_sem, plV, z0, z1, z2, z3]
      · have ht := set4_touch wr (w.heap.size + 1) (.slice vo vn vk) (.int .i64 p.ticks) (.slice sao sn scap) (.slice wao wn wcap)
        have hrow : ∀ g, w3.heap.size ≤ g → g < W0.heap.size → g ≠ kb → ((((wr.setCell ⟨w.heap.size + 1, 0, none⟩ (.slice vo vn vk)).setCell ⟨w.heap.size + 1, 1, none⟩ (.int .i64 p.ticks)).setCell ⟨w.heap.size + 1, 2, none⟩ (.slice sao sn scap)).setCell ⟨w.heap.size + 1, 3, none⟩ (.slice wao wn wcap)).heap[g]? = W0.heap[g]? := fun g h1 h2 h3 => (ht.block g (by omega) (by simp; omega)).trans (HQ.out.tk.block g h2 (by simp; omega))
        refine ⟨HQ.out.cds hul ht (fun m hm => by rw [List.mem_singleton] at hm; omega), sps_of_own (own_block HSR.out.1 (fun g hg => ?_)), wrs_of_own (own_block HWR.out.1 (fun g hg => ?_))⟩
        · have := HSR.out.1.lt g hg
          exact hrow g this.1 this.2 (HSR.out.2 g hg)
        · have := HWR.out.1.lt g hg
          exact hrow g this.1 this.2 (HWR.out.2 g hg)
      · exact set4_below hbw (w.heap.size + 1) (by omega) _ _ _ _
/-- Purge does what the laws ask of it. -/
theorem prg_purge {G : World → Prop} (hF : ∀ w, G w → Forms w) : PrgPurge G := fun p vc vs vw r W hG hP => by
  by_cases hp : plchk p = 0
  · by_cases hr : r < 0 ∨ (p.code.length : Int) ≤ r
    · have he : prgE p r = 1 := by
        unfold prgE
        rw [if_pos hp, if_pos hr]
      have hq : prgP p r = noPlan := by
        unfold prgP
        rw [if_neg (by omega)]
      rw [he, hq]
      refine (pg_out p vc vs vw r W (hF W hG) hP hp hr).mono ?_
      rintro e w' ⟨rfl, hb⟩
      exact ⟨_, _, _, rfl, ⟨Or.inl ⟨rfl, _, _, rfl⟩, Or.inl ⟨rfl, _, _, rfl⟩, Or.inl ⟨rfl, _, _, rfl⟩⟩, hb⟩
    · obtain ⟨r, rfl⟩ : ∃ m : Nat, r = m := ⟨r.toNat, by omega⟩
      have he : prgE p r = 0 := by
        unfold prgE
        rw [if_pos hp, if_neg hr]
      have hq : prgP p r = purgeP p (fun i => way p.wires i r) := by
        unfold prgP
        rw [if_pos he, Int.toNat_natCast]
      rw [he, hq]
      exact pg_ok p vc vs vw r W (hF W hG) hP hp (by omega)
  · have he : prgE p r = plchk p := by
      unfold prgE
      rw [if_neg hp]
    have hq : prgP p r = noPlan := by
      unfold prgP
      rw [if_neg (by rw [he]; exact hp)]
    rw [he, hq]
    refine (pg_no p vc vs vw r W (hF W hG) hP hp).mono ?_
    rintro e w' ⟨rfl, hb⟩
    exact ⟨_, _, _, rfl, ⟨Or.inl ⟨rfl, _, _, rfl⟩, Or.inl ⟨rfl, _, _, rfl⟩, Or.inl ⟨rfl, _, _, rfl⟩⟩, hb⟩
end Go.Proofs.YtfconbblnmbnpaeDoor

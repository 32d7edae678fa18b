/-
  StEq, StL, SgtCR, StTwo, PgSame, SgtRunG, WSend, DLineOps: joined into one text.
-/
import Derived.Test.YtajfgmlockjmhaeDoorJa1
import Derived.Laws.StructEq
import Derived.Test.YtajfgmlockjmhaeDoorJa9
import Derived.Deep.RegionWith
import Derived.BigQuiet
import Derived.Test.YtajfgmlockjmhaeDoorJa2
import Derived.Test.YtajfgmlockjmhaeDoorJa6
import Derived.Deep.CutRange
import Derived.RangeFuncNested
import Derived.Test.YtajfgmlockjmhaeDoorJa3
import Derived.Deep.RegionLaw
namespace Go.Proofs.YtajfgmlockjmhaeDoor
open Go.RowKit

theorem fieldsSt : Tryd.prog.underlying 35 = some (.struct (Tryd.prog.fieldsOf 35)) := by kernel_rfl
theorem stoodSt : Tryd.prog.stoodInHeld 35 = false := by kernel_rfl
theorem guardSt : Tryd.prog.eqGuardType Tryd.prog.depth 35 = false := by kernel_rfl
theorem fieldsStIs : Tryd.prog.fieldsOf 35 = #[{ name := "At", type := 3, offset := 0, embedded := false, tag := "", pkgPath := "", byteOffset := 0 }, { name := "Cells", type := 33, offset := 1, embedded := false, tag := "", pkgPath := "", byteOffset := 8 }, { name := "Failed", type := 4, offset := 7, embedded := false, tag := "", pkgPath := "", byteOffset := 56 }] := by kernel_rfl
theorem eqIn_six (a b c d e f : Int) (w : World) : (Op.equalIn 9999 33 (.agg #[.int .i64 a, .int .i64 b, .int .i64 c, .int .i64 d, .int .i64 e, .int .i64 f]) (.agg #[.int .i64 a, .int .i64 b, .int .i64 c, .int .i64 d, .int .i64 e, .int .i64 f])).run Tryd.prog w = .ok true w := by
  obtain ⟨n, hn⟩ : ∃ n, n + 1 = 9999 := ⟨9998, rfl⟩
  obtain ⟨m, hm⟩ : ∃ m, n = m + 1 := ⟨9997, by omega⟩
  rw [← hn]
  clear hn
  have hq : ∀ (x : Int) (w : World), (Op.equalIn n 3 (.int .i64 x) (.int .i64 x)).run Tryd.prog w = .ok true w := fun x w => by
    rw [hm, run_equalIn_int w m 3 .i64 .i64 x x Tryd.underlying3]
    simp
  clear hm
  simp only [Op.equalIn, Sem.run_bind, run_underlying Tryd.underlying33, Result.andThen_ok]
  simp [List.range', go_sem, hq]
theorem eqIn_st (p a b c d e f : Int) (g : Bool) (w : World) : (Op.equalIn 10000 35 (.agg #[.int .i64 p, .int .i64 a, .int .i64 b, .int .i64 c, .int .i64 d, .int .i64 e, .int .i64 f, .bool g]) (.agg #[.int .i64 p, .int .i64 a, .int .i64 b, .int .i64 c, .int .i64 d, .int .i64 e, .int .i64 f, .bool g])).run Tryd.prog w = .ok true w := by
  rw [run_equalIn_agg _ _ _ _ _ fieldsSt stoodSt, fieldsStIs]
  simp [go_sem, Tryd.underlying3, Tryd.underlying4, eqIn_six]
theorem eql_st (p a b c d e f : Int) (g : Bool) (w : World) : (binOp .eql 35 (.agg #[.int .i64 p, .int .i64 a, .int .i64 b, .int .i64 c, .int .i64 d, .int .i64 e, .int .i64 f, .bool g]) (.agg #[.int .i64 p, .int .i64 a, .int .i64 b, .int .i64 c, .int .i64 d, .int .i64 e, .int .i64 f, .bool g])).run Tryd.prog w = .ok (.bool true) w := by
  rw [run_eql_struct, eqIn_st]
  rfl
theorem neq_st (p a b c d e f : Int) (g : Bool) (w : World) : (binOp .neq 35 (.agg #[.int .i64 p, .int .i64 a, .int .i64 b, .int .i64 c, .int .i64 d, .int .i64 e, .int .i64 f, .bool g]) (.agg #[.int .i64 p, .int .i64 a, .int .i64 b, .int .i64 c, .int .i64 d, .int .i64 e, .int .i64 f, .bool g])).run Tryd.prog w = .ok (.bool false) w := by
  rw [run_neq_struct, eqIn_st]
  rfl
end Go.Proofs.YtajfgmlockjmhaeDoor
namespace Go.Proofs.YtajfgmlockjmhaeDoor
open Go.RowKit

/-- States in a row that can be read. -/
def StL (w : World) (v : Value) (l : List St) : Prop :=
  (l = [] ∧ ∃ ao cap, v = .slice ao 0 cap) ∨ ∃ b off cap, v = .slice (some ⟨b, off, none⟩) l.length cap ∧ l.length ≤ cap ∧ b < w.heap.size ∧ ∀ (i : Nat) s, l[i]? = some s → StC w b (off + i * 8) s
theorem StL.form {w : World} {v : Value} {l : List St} (h : StL w v l) : ∃ ao cap, v = .slice ao l.length cap := by
  rcases h with ⟨rfl, ao, cap, rfl⟩ | ⟨b, off, cap, rfl, _⟩
  · exact ⟨ao, cap, rfl⟩
  · exact ⟨_, cap, rfl⟩
theorem StL.all {w w' : World} {v : Value} {l : List St} (h : StL w v l) (hb : Below w.heap.size w w') : StL w' v l := by
  rcases h with h | ⟨b, off, cap, rfl, hcap, hlt, hc⟩
  · exact Or.inl h
  · exact Or.inr ⟨b, off, cap, rfl, hcap, Nat.lt_of_lt_of_le hlt hb.size, fun i s hi => (hc i s hi).block (hb.block b hlt)⟩
theorem StL.own {w : World} {base : Nat} {v : Value} {l : List St} (h : w.ownsRow base 35 8 v l.length (stCells l)) : StL w v l := by
  have hl := h.lt
  have hcs := @World.ownsRow.cells _ _ _ _ _ _ _ h
  rcases h.2 with ⟨rfl, h0⟩ | ⟨g, cap, cur, rfl, _, _, hcap, _⟩
  · exact Or.inl ⟨List.eq_nil_of_length_eq_zero h0, _, _, rfl⟩
  · have hat : ∀ j u, (stCells l)[j]? = some u → w.cell? ⟨g, j, none⟩ = some u := fun j u hu => by
      have := hcs rfl j u hu
      rwa [Addr.add_lit, Nat.zero_add] at this
    refine Or.inr ⟨g, 0, cap, rfl, hcap, (hl g rfl).2, fun i s hs => ?_⟩
    obtain ⟨q0, q1, q2, q3, q4, q5, q6, q7⟩ := stCells_at l i s hs
    rw [Nat.zero_add]
    exact ⟨hat _ _ q0, hat _ _ q1, hat _ _ q2, hat _ _ q3, hat _ _ q4, hat _ _ q5, hat _ _ q6, hat _ _ q7⟩
end Go.Proofs.YtajfgmlockjmhaeDoor
namespace Go.Proofs.YtajfgmlockjmhaeDoor
open Go.RowKit

/-- Run: the states of a room of a new kernel. -/
def SgtRun (G : World → Prop) : Prop := ∀ (p : PD) (vc vs vw : Value) (n r : Int) (W : World), G W → Pln W vc vs vw p → Calls Tryd.prog 8 #[plV vc p.ticks vs vw, .int .i64 n, .int .i64 r] W fun e w' => ∃ v, e = .returned (.tuple #[v, wErr (runE p n r)]) ∧ StL w' v (if runE p n r = 0 then statesK p n.toNat r.toNat else []) ∧ Below W.heap.size W w'
end Go.Proofs.YtajfgmlockjmhaeDoor
namespace Go.Proofs.YtajfgmlockjmhaeDoor
open Go.RowKit

/-- Do two states look the same? -/
def sameS (s t : St) : Bool := decide (s.p = t.p) && (decide (s.c 0 = t.c 0) && (decide (s.c 1 = t.c 1) && (decide (s.c 2 = t.c 2) && (decide (s.c 3 = t.c 3) && (decide (s.c 4 = t.c 4) && (decide (s.c 5 = t.c 5) && (s.f == t.f)))))))
theorem sameS_iff {s t : St} : sameS s t = true ↔ StSame s t := by
  unfold sameS
  simp only [Bool.and_eq_true, decide_eq_true_eq, beq_iff_eq]
  constructor
  · rintro ⟨hp, h0, h1, h2, h3, h4, h5, hf⟩
    refine ⟨hp, fun i hi => ?_, hf⟩
    match i, hi with
    | 0, _ => exact h0
    | 1, _ => exact h1
    | 2, _ => exact h2
    | 3, _ => exact h3
    | 4, _ => exact h4
    | 5, _ => exact h5
  · intro h
    exact ⟨h.p, h.c 0 (by omega), h.c 1 (by omega), h.c 2 (by omega), h.c 3 (by omega), h.c 4 (by omega), h.c 5 (by omega), h.f⟩
theorem eqIn_six2 (a b c d e f a' b' c' d' e' f' : Int) (w : World) : (Op.equalIn 9999 33 (.agg #[.int .i64 a, .int .i64 b, .int .i64 c, .int .i64 d, .int .i64 e, .int .i64 f]) (.agg #[.int .i64 a', .int .i64 b', .int .i64 c', .int .i64 d', .int .i64 e', .int .i64 f'])).run Tryd.prog w = .ok (decide (a = a') && (decide (b = b') && (decide (c = c') && (decide (d = d') && (decide (e = e') && decide (f = f')))))) w := by
  obtain ⟨n, hn⟩ : ∃ n, n + 1 = 9999 := ⟨9998, rfl⟩
  obtain ⟨m, hm⟩ : ∃ m, n = m + 1 := ⟨9997, by omega⟩
  rw [← hn]
  clear hn
  have hq : ∀ (x y : Int) (w : World), (Op.equalIn n 3 (.int .i64 x) (.int .i64 y)).run Tryd.prog w = .ok (decide (x = y)) w := fun x y w => by
    rw [hm, run_equalIn_int w m 3 .i64 .i64 x y Tryd.underlying3]
    by_cases h : x = y <;> simp [h]
  clear hm
  simp only [Op.equalIn, Sem.run_bind, run_underlying Tryd.underlying33, Result.andThen_ok]
  by_cases h0 : a = a'
  · by_cases h1 : b = b'
    · by_cases h2 : c = c'
      · by_cases h3 : d = d'
        · by_cases h4 : e = e'
          · by_cases h5 : f = f'
            · simp [List.range', go_sem, hq, h0, h1, h2, h3, h4, h5]
            · simp [List.range', go_sem, hq, h0, h1, h2, h3, h4, h5]
          · simp [List.range', go_sem, hq, h0, h1, h2, h3, h4]
        · simp [List.range', go_sem, hq, h0, h1, h2, h3]
      · simp [List.range', go_sem, hq, h0, h1, h2]
    · simp [List.range', go_sem, hq, h0, h1]
  · simp [List.range', go_sem, hq, h0]
theorem eqIn_st2 (s t : St) (w : World) : (Op.equalIn 10000 35 (.agg #[.int .i64 s.p, .int .i64 (s.c 0), .int .i64 (s.c 1), .int .i64 (s.c 2), .int .i64 (s.c 3), .int .i64 (s.c 4), .int .i64 (s.c 5), .bool s.f]) (.agg #[.int .i64 t.p, .int .i64 (t.c 0), .int .i64 (t.c 1), .int .i64 (t.c 2), .int .i64 (t.c 3), .int .i64 (t.c 4), .int .i64 (t.c 5), .bool t.f])).run Tryd.prog w = .ok (sameS s t) w := by
  rw [run_equalIn_agg _ _ _ _ _ fieldsSt stoodSt, fieldsStIs]
  unfold sameS
  by_cases h0 : s.p = t.p
  · cases hsix : (decide (s.c 0 = t.c 0) && (decide (s.c 1 = t.c 1) && (decide (s.c 2 = t.c 2) && (decide (s.c 3 = t.c 3) && (decide (s.c 4 = t.c 4) && decide (s.c 5 = t.c 5)))))) with
    | true =>
      have e := hsix
      simp only [Bool.and_eq_true, decide_eq_true_eq] at e
      obtain ⟨e0, e1, e2, e3, e4, e5⟩ := e
      simp [go_sem, Tryd.underlying3, Tryd.underlying4, eqIn_six2, h0, e0, e1, e2, e3, e4, e5]
      by_cases hf : s.f = t.f <;> simp [hf]
    | false =>
      have e : (decide (s.c 0 = t.c 0) && (decide (s.c 1 = t.c 1) && (decide (s.c 2 = t.c 2) && (decide (s.c 3 = t.c 3) && (decide (s.c 4 = t.c 4) && (decide (s.c 5 = t.c 5) && (s.f == t.f))))))) = false := by
        revert hsix
        cases decide (s.c 0 = t.c 0) <;> cases decide (s.c 1 = t.c 1) <;> cases decide (s.c 2 = t.c 2) <;> cases decide (s.c 3 = t.c 3) <;> cases decide (s.c 4 = t.c 4) <;> cases decide (s.c 5 = t.c 5) <;> simp
      rw [e]
      simp [go_sem, Tryd.underlying3, Tryd.underlying4, eqIn_six2, h0, hsix]
  · simp [go_sem, Tryd.underlying3, Tryd.underlying4, h0]
theorem neq_st2 (s t : St) (w : World) : (binOp .neq 35 (.agg #[.int .i64 s.p, .int .i64 (s.c 0), .int .i64 (s.c 1), .int .i64 (s.c 2), .int .i64 (s.c 3), .int .i64 (s.c 4), .int .i64 (s.c 5), .bool s.f]) (.agg #[.int .i64 t.p, .int .i64 (t.c 0), .int .i64 (t.c 1), .int .i64 (t.c 2), .int .i64 (t.c 3), .int .i64 (t.c 4), .int .i64 (t.c 5), .bool t.f])).run Tryd.prog w = .ok (.bool (!(sameS s t))) w := by
  rw [run_neq_struct, eqIn_st2]
  rfl
end Go.Proofs.YtajfgmlockjmhaeDoor
namespace Go.Proofs.YtajfgmlockjmhaeDoor
open Go.RowKit

theorem index_two (a b c d a' b' c' d' : Value) (w : World) : (Instr.index 76 (.agg #[a, b, c, d, a', b', c', d']) (.int .i64 0)).run Tryd.prog w = .ok (.agg #[a, b, c, d]) w ∧ (Instr.index 76 (.agg #[a, b, c, d, a', b', c', d']) (.int .i64 1)).run Tryd.prog w = .ok (.agg #[a', b', c', d']) w := by
  constructor <;> kernel_rfl
set_option maxRecDepth 100000 in
set_option maxHeartbeats 8000000 in
theorem psm_p (p q : PD) (vc vs vw ic is iw : Value) (n r : Int) (w : World) (hfm : Forms w) (hP : Pln w vc vs vw p) (hQ : Pln w ic is iw q) (hp : plchk p ≠ 0) :
    Calls Tryd.prog 11 #[plV vc p.ticks vs vw, plV ic q.ticks is iw, .int .i64 n, .int .i64 r] w fun e w' => e = .returned (.tuple #[.int .i64 0, wErr (plchk p)]) ∧ Below w.heap.size w w' := by
  obtain ⟨ca, cc, rfl⟩ := hP.code.form
  obtain ⟨sa, sc, rfl⟩ := hP.spans.form
  obtain ⟨wa, wc', rfl⟩ := hP.wires.form
  obtain ⟨xa, xc, rfl⟩ := hQ.code.form
  obtain ⟨ya, yc, rfl⟩ := hQ.spans.form
  obtain ⟨za, zc', rfl⟩ := hQ.wires.form
  have hx1 := Bxt.first w (.slice ca p.code.length cc) p.ticks (.slice sa p.spans.length sc) (.slice wa p.wires.length wc') (.slice xa q.code.length xc) q.ticks (.slice ya q.spans.length yc) (.slice za q.wires.length zc')
  generalize hWA : (w.alloc (.cells #[.slice ca p.code.length cc, .int .i64 p.ticks, .slice sa p.spans.length sc, .slice wa p.wires.length wc'] 26)).alloc (.cells #[.slice xa q.code.length xc, .int .i64 q.ticks, .slice ya q.spans.length yc, .slice za q.wires.length zc'] 26) = WA at hx1
  have HC : Hid (∀ W, Below w.heap.size w W → Calls Tryd.prog 12 #[.agg #[.slice ca p.code.length cc, .int .i64 p.ticks, .slice sa p.spans.length sc, .slice wa p.wires.length wc']] W fun e w' => e = .returned (wErr (plchk p)) ∧ Below W.heap.size W w') := fun W hb => plcheck_any p _ _ _ _ (hfm.all hb) (hP.all hb)
  have HD : Hid (∀ W, Below w.heap.size w W → Calls Tryd.prog 12 #[.agg #[.slice xa q.code.length xc, .int .i64 q.ticks, .slice ya q.spans.length yc, .slice za q.wires.length zc']] W fun e w' => e = .returned (wErr (plchk q)) ∧ Below W.heap.size W w') := fun W hb => plcheck_any q _ _ _ _ (hfm.all hb) (hQ.all hb)
  unfold plV
  rw [wErr_not hp] at HC ⊢
  generalize plchk p = ec at HC hp ⊢
  obtain ⟨k0, k1, k2, k3⟩ := hx1.cs
  obtain ⟨d0, d1, d2, d3⟩ := hx1.ds
  have hi0 := fun W => (index_two (.slice ca p.code.length cc) (.int .i64 p.ticks) (.slice sa p.spans.length sc) (.slice wa p.wires.length wc') (.slice xa q.code.length xc) (.int .i64 q.ticks) (.slice ya q.spans.length yc) (.slice za q.wires.length zc') W).1
  have hi1 := fun W => (index_two (.slice ca p.code.length cc) (.int .i64 p.ticks) (.slice sa p.spans.length sc) (.slice wa p.wires.length wc') (.slice xa q.code.length xc) (.int .i64 q.ticks) (.slice ya q.spans.length yc) (.slice za q.wires.length zc') W).2
  clear hP hQ hfm HD
  go_enter Tryd.func11, Tryd.ntmps11
  go_upto_region 1 with fail
  clear hWA
  go_wp2
  refine wp_loop_rounds 3 ?_
  rw [rounds_succ]
  go_upto_region 4 with fail
  have hx2 := hx1.step ((Below.refl _ _).alloc (Nat.le_refl _) (.cells #[.slice ca p.code.length cc, .int .i64 p.ticks, .slice sa p.spans.length sc, .slice wa p.wires.length wc'] 26))
  have q1 := HC.out _ hx2.below
  clear HC
  go_wp2_with (go_at_call 12; refine q1.mono ?_; rintro e w2 ⟨rfl, b2⟩; clear q1)
  go_ret2
  exact ⟨rfl, (hx2.step b2).below⟩
set_option maxRecDepth 100000 in
set_option maxHeartbeats 8000000 in
theorem psm_q (p q : PD) (vc vs vw ic is iw : Value) (n r : Int) (w : World) (hfm : Forms w) (hP : Pln w vc vs vw p) (hQ : Pln w ic is iw q) (hp : plchk p = 0) (hq : plchk q ≠ 0) :
    Calls Tryd.prog 11 #[plV vc p.ticks vs vw, plV ic q.ticks is iw, .int .i64 n, .int .i64 r] w fun e w' => e = .returned (.tuple #[.int .i64 0, wErr (plchk q)]) ∧ Below w.heap.size w w' := by
  obtain ⟨ca, cc, rfl⟩ := hP.code.form
  obtain ⟨sa, sc, rfl⟩ := hP.spans.form
  obtain ⟨wa, wc', rfl⟩ := hP.wires.form
  obtain ⟨xa, xc, rfl⟩ := hQ.code.form
  obtain ⟨ya, yc, rfl⟩ := hQ.spans.form
  obtain ⟨za, zc', rfl⟩ := hQ.wires.form
  have hx1 := Bxt.first w (.slice ca p.code.length cc) p.ticks (.slice sa p.spans.length sc) (.slice wa p.wires.length wc') (.slice xa q.code.length xc) q.ticks (.slice ya q.spans.length yc) (.slice za q.wires.length zc')
  generalize hWA : (w.alloc (.cells #[.slice ca p.code.length cc, .int .i64 p.ticks, .slice sa p.spans.length sc, .slice wa p.wires.length wc'] 26)).alloc (.cells #[.slice xa q.code.length xc, .int .i64 q.ticks, .slice ya q.spans.length yc, .slice za q.wires.length zc'] 26) = WA at hx1
  have HC : Hid (∀ W, Below w.heap.size w W → Calls Tryd.prog 12 #[.agg #[.slice ca p.code.length cc, .int .i64 p.ticks, .slice sa p.spans.length sc, .slice wa p.wires.length wc']] W fun e w' => e = .returned (wErr (plchk p)) ∧ Below W.heap.size W w') := fun W hb => plcheck_any p _ _ _ _ (hfm.all hb) (hP.all hb)
  have HD : Hid (∀ W, Below w.heap.size w W → Calls Tryd.prog 12 #[.agg #[.slice xa q.code.length xc, .int .i64 q.ticks, .slice ya q.spans.length yc, .slice za q.wires.length zc']] W fun e w' => e = .returned (wErr (plchk q)) ∧ Below W.heap.size W w') := fun W hb => plcheck_any q _ _ _ _ (hfm.all hb) (hQ.all hb)
  unfold plV
  rw [wErr_not hq] at HD ⊢
  rw [hp] at HC
  simp only [wErr, if_true] at HC
  generalize plchk q = ec at HD hq ⊢
  obtain ⟨k0, k1, k2, k3⟩ := hx1.cs
  obtain ⟨d0, d1, d2, d3⟩ := hx1.ds
  have hi0 := fun W => (index_two (.slice ca p.code.length cc) (.int .i64 p.ticks) (.slice sa p.spans.length sc) (.slice wa p.wires.length wc') (.slice xa q.code.length xc) (.int .i64 q.ticks) (.slice ya q.spans.length yc) (.slice za q.wires.length zc') W).1
  have hi1 := fun W => (index_two (.slice ca p.code.length cc) (.int .i64 p.ticks) (.slice sa p.spans.length sc) (.slice wa p.wires.length wc') (.slice xa q.code.length xc) (.int .i64 q.ticks) (.slice ya q.spans.length yc) (.slice za q.wires.length zc') W).2
  clear hP hQ hfm hp
  go_enter Tryd.func11, Tryd.ntmps11
  go_upto_region 1 with fail
  clear hWA
  go_wp2
  refine wp_loop_rounds 3 ?_
  rw [rounds_succ]
  go_upto_region 4 with fail
  have hx2 := hx1.step ((Below.refl _ _).alloc (Nat.le_refl _) (.cells #[.slice ca p.code.length cc, .int .i64 p.ticks, .slice sa p.spans.length sc, .slice wa p.wires.length wc'] 26))
  have q1 := HC.out _ hx2.below
  clear HC
  go_wp2_with (go_at_call 12; refine q1.mono ?_; rintro e w2 ⟨rfl, b2⟩; clear q1)
  have hx3 := hx2.step b2
  clear k0 k1 k2 k3 d0 d1 d2 d3 hi0 hx1 hx2 b2
  rw [rounds_succ]
  go_upto_region 4 with fail
  have hx4 := hx3.step ((Below.refl _ _).alloc (Nat.le_refl _) (.cells #[.slice xa q.code.length xc, .int .i64 q.ticks, .slice ya q.spans.length yc, .slice za q.wires.length zc'] 26))
  have q2 := HD.out _ hx4.below
  clear HD
  go_wp2_with (go_at_call 12; refine q2.mono ?_; rintro e w4 ⟨rfl, b4⟩; clear q2)
  go_ret2
  exact ⟨rfl, (hx4.step b4).below⟩
set_option maxRecDepth 100000 in
set_option maxHeartbeats 8000000 in
theorem psm_rp {G : World → Prop} (p q : PD) (vc vs vw ic is iw : Value) (n r : Int) (w : World) (hfm : Forms w) (hP : Pln w vc vs vw p) (hQ : Pln w ic is iw q) (hG : G w) (hall : ∀ w w', G w → Below w.heap.size w w' → G w') (R : SgtRun G) (hp : plchk p = 0) (hq : plchk q = 0) (hr : runE p n r = 1) :
    Calls Tryd.prog 11 #[plV vc p.ticks vs vw, plV ic q.ticks is iw, .int .i64 n, .int .i64 r] w fun e w' => e = .returned (.tuple #[.int .i64 0, wErr 1]) ∧ Below w.heap.size w w' := by
  obtain ⟨ca, cc, rfl⟩ := hP.code.form
  obtain ⟨sa, sc, rfl⟩ := hP.spans.form
  obtain ⟨wa, wc', rfl⟩ := hP.wires.form
  obtain ⟨xa, xc, rfl⟩ := hQ.code.form
  obtain ⟨ya, yc, rfl⟩ := hQ.spans.form
  obtain ⟨za, zc', rfl⟩ := hQ.wires.form
  have hx1 := Bxt.first w (.slice ca p.code.length cc) p.ticks (.slice sa p.spans.length sc) (.slice wa p.wires.length wc') (.slice xa q.code.length xc) q.ticks (.slice ya q.spans.length yc) (.slice za q.wires.length zc')
  generalize hWA : (w.alloc (.cells #[.slice ca p.code.length cc, .int .i64 p.ticks, .slice sa p.spans.length sc, .slice wa p.wires.length wc'] 26)).alloc (.cells #[.slice xa q.code.length xc, .int .i64 q.ticks, .slice ya q.spans.length yc, .slice za q.wires.length zc'] 26) = WA at hx1
  have HC : Hid (∀ W, Below w.heap.size w W → Calls Tryd.prog 12 #[.agg #[.slice ca p.code.length cc, .int .i64 p.ticks, .slice sa p.spans.length sc, .slice wa p.wires.length wc']] W fun e w' => e = .returned (wErr (plchk p)) ∧ Below W.heap.size W w') := fun W hb => plcheck_any p _ _ _ _ (hfm.all hb) (hP.all hb)
  have HD : Hid (∀ W, Below w.heap.size w W → Calls Tryd.prog 12 #[.agg #[.slice xa q.code.length xc, .int .i64 q.ticks, .slice ya q.spans.length yc, .slice za q.wires.length zc']] W fun e w' => e = .returned (wErr (plchk q)) ∧ Below W.heap.size W w') := fun W hb => plcheck_any q _ _ _ _ (hfm.all hb) (hQ.all hb)
  unfold plV
  rw [hq] at HD
  rw [hp] at HC
  simp only [wErr, if_true] at HC HD
  have HR : Hid (∀ W, Below w.heap.size w W → Calls Tryd.prog 8 #[.agg #[.slice ca p.code.length cc, .int .i64 p.ticks, .slice sa p.spans.length sc, .slice wa p.wires.length wc'], .int .i64 n, .int .i64 r] W fun e w' => ∃ ao cap, e = .returned (.tuple #[.slice ao 0 cap, .iface 71 (.int .i64 1)]) ∧ Below W.heap.size W w') := fun W hb => by
    refine (R p _ _ _ n r W (hall w W hG hb) (hP.all hb)).mono ?_
    rintro e w' ⟨v, rfl, h1, h2⟩
    rw [hr, if_neg (by decide)] at h1
    obtain ⟨ao, cap, rfl⟩ := h1.form
    rw [hr]
    exact ⟨ao, cap, rfl, h2⟩
  rw [show wErr 1 = .iface 71 (.int .i64 1) from rfl]
  obtain ⟨k0, k1, k2, k3⟩ := hx1.cs
  obtain ⟨d0, d1, d2, d3⟩ := hx1.ds
  have hi0 := fun W => (index_two (.slice ca p.code.length cc) (.int .i64 p.ticks) (.slice sa p.spans.length sc) (.slice wa p.wires.length wc') (.slice xa q.code.length xc) (.int .i64 q.ticks) (.slice ya q.spans.length yc) (.slice za q.wires.length zc') W).1
  have hi1 := fun W => (index_two (.slice ca p.code.length cc) (.int .i64 p.ticks) (.slice sa p.spans.length sc) (.slice wa p.wires.length wc') (.slice xa q.code.length xc) (.int .i64 q.ticks) (.slice ya q.spans.length yc) (.slice za q.wires.length zc') W).2
  clear hP hQ hfm hp hq hr hall hG R
  go_enter Tryd.func11, Tryd.ntmps11
  go_upto_region 1 with fail
  clear hWA
  go_wp2
  refine wp_loop_rounds 3 ?_
  rw [rounds_succ]
  go_upto_region 4 with fail
  have hx2 := hx1.step ((Below.refl _ _).alloc (Nat.le_refl _) (.cells #[.slice ca p.code.length cc, .int .i64 p.ticks, .slice sa p.spans.length sc, .slice wa p.wires.length wc'] 26))
  have q1 := HC.out _ hx2.below
  clear HC
  go_wp2_with (go_at_call 12; refine q1.mono ?_; rintro e w2 ⟨rfl, b2⟩; clear q1)
  have hx3 := hx2.step b2
  clear k0 k1 k2 k3 d0 d1 d2 d3 hi0 hx1 hx2 b2
  rw [rounds_succ]
  go_upto_region 4 with fail
  have hx4 := hx3.step ((Below.refl _ _).alloc (Nat.le_refl _) (.cells #[.slice xa q.code.length xc, .int .i64 q.ticks, .slice ya q.spans.length yc, .slice za q.wires.length zc'] 26))
  have q2 := HD.out _ hx4.below
  clear HD
  go_wp2_with (go_at_call 12; refine q2.mono ?_; rintro e w4 ⟨rfl, b4⟩; clear q2)
  have hx5 := hx4.step b4
  clear hx3 hx4 b4 hi1
  rw [rounds_succ]
  obtain ⟨k0, k1, k2, k3⟩ := hx5.cs
  have q3 := HR.out w4 hx5.below
  clear HR
  go_wp2_with (go_at_call 8; refine q3.mono ?_; rintro e w6 ⟨ao, cap, rfl, b6⟩; clear q3)
  go_ret2
  exact ⟨rfl, (hx5.step b6).below⟩
set_option maxRecDepth 100000 in
set_option maxHeartbeats 8000000 in
theorem psm_rq {G : World → Prop} (p q : PD) (vc vs vw ic is iw : Value) (n r : Int) (w : World) (hfm : Forms w) (hP : Pln w vc vs vw p) (hQ : Pln w ic is iw q) (hG : G w) (hall : ∀ w w', G w → Below w.heap.size w w' → G w') (R : SgtRun G) (hp : plchk p = 0) (hq : plchk q = 0) (hr : runE p n r = 0) (hs : runE q n r = 1) :
    Calls Tryd.prog 11 #[plV vc p.ticks vs vw, plV ic q.ticks is iw, .int .i64 n, .int .i64 r] w fun e w' => e = .returned (.tuple #[.int .i64 0, wErr 1]) ∧ Below w.heap.size w w' := by
  obtain ⟨ca, cc, rfl⟩ := hP.code.form
  obtain ⟨sa, sc, rfl⟩ := hP.spans.form
  obtain ⟨wa, wc', rfl⟩ := hP.wires.form
  obtain ⟨xa, xc, rfl⟩ := hQ.code.form
  obtain ⟨ya, yc, rfl⟩ := hQ.spans.form
  obtain ⟨za, zc', rfl⟩ := hQ.wires.form
  have hx1 := Bxt.first w (.slice ca p.code.length cc) p.ticks (.slice sa p.spans.length sc) (.slice wa p.wires.length wc') (.slice xa q.code.length xc) q.ticks (.slice ya q.spans.length yc) (.slice za q.wires.length zc')
  generalize hWA : (w.alloc (.cells #[.slice ca p.code.length cc, .int .i64 p.ticks, .slice sa p.spans.length sc, .slice wa p.wires.length wc'] 26)).alloc (.cells #[.slice xa q.code.length xc, .int .i64 q.ticks, .slice ya q.spans.length yc, .slice za q.wires.length zc'] 26) = WA at hx1
  have HC : Hid (∀ W, Below w.heap.size w W → Calls Tryd.prog 12 #[.agg #[.slice ca p.code.length cc, .int .i64 p.ticks, .slice sa p.spans.length sc, .slice wa p.wires.length wc']] W fun e w' => e = .returned (wErr (plchk p)) ∧ Below W.heap.size W w') := fun W hb => plcheck_any p _ _ _ _ (hfm.all hb) (hP.all hb)
  have HD : Hid (∀ W, Below w.heap.size w W → Calls Tryd.prog 12 #[.agg #[.slice xa q.code.length xc, .int .i64 q.ticks, .slice ya q.spans.length yc, .slice za q.wires.length zc']] W fun e w' => e = .returned (wErr (plchk q)) ∧ Below W.heap.size W w') := fun W hb => plcheck_any q _ _ _ _ (hfm.all hb) (hQ.all hb)
  unfold plV
  rw [hq] at HD
  rw [hp] at HC
  simp only [wErr, if_true] at HC HD
  have HR : Hid (∀ W, Below w.heap.size w W → Calls Tryd.prog 8 #[.agg #[.slice ca p.code.length cc, .int .i64 p.ticks, .slice sa p.spans.length sc, .slice wa p.wires.length wc'], .int .i64 n, .int .i64 r] W fun e w' => ∃ b off cap, e = .returned (.tuple #[.slice (some ⟨b, off, none⟩) (statesK p n.toNat r.toNat).length cap, .nilIface]) ∧ b < w'.heap.size ∧ (∀ (i : Nat) s, (statesK p n.toNat r.toNat)[i]? = some s → StC w' b (off + i * 8) s) ∧ Below W.heap.size W w') := fun W hb => by
    refine (R p _ _ _ n r W (hall w W hG hb) (hP.all hb)).mono ?_
    rintro e w' ⟨v, rfl, h1, h2⟩
    rw [hr, if_pos rfl] at h1
    rw [hr]
    rcases h1 with ⟨h3, _⟩ | ⟨b, off, cap, rfl, _, h4, h5⟩
    · have := statesK_len p n.toNat r.toNat
      rw [h3] at this
      cases this
    · exact ⟨b, off, cap, rfl, h4, h5, h2⟩
  have HS : Hid (∀ W, Below w.heap.size w W → Calls Tryd.prog 8 #[.agg #[.slice xa q.code.length xc, .int .i64 q.ticks, .slice ya q.spans.length yc, .slice za q.wires.length zc'], .int .i64 n, .int .i64 r] W fun e w' => ∃ ao cap, e = .returned (.tuple #[.slice ao 0 cap, .iface 71 (.int .i64 1)]) ∧ Below W.heap.size W w') := fun W hb => by
    refine (R q _ _ _ n r W (hall w W hG hb) (hQ.all hb)).mono ?_
    rintro e w' ⟨v, rfl, h1, h2⟩
    rw [hs, if_neg (by decide)] at h1
    obtain ⟨ao, cap, rfl⟩ := h1.form
    rw [hs]
    exact ⟨ao, cap, rfl, h2⟩
  rw [show wErr 1 = .iface 71 (.int .i64 1) from rfl]
  obtain ⟨k0, k1, k2, k3⟩ := hx1.cs
  obtain ⟨d0, d1, d2, d3⟩ := hx1.ds
  have hi0 := fun W => (index_two (.slice ca p.code.length cc) (.int .i64 p.ticks) (.slice sa p.spans.length sc) (.slice wa p.wires.length wc') (.slice xa q.code.length xc) (.int .i64 q.ticks) (.slice ya q.spans.length yc) (.slice za q.wires.length zc') W).1
  have hi1 := fun W => (index_two (.slice ca p.code.length cc) (.int .i64 p.ticks) (.slice sa p.spans.length sc) (.slice wa p.wires.length wc') (.slice xa q.code.length xc) (.int .i64 q.ticks) (.slice ya q.spans.length yc) (.slice za q.wires.length zc') W).2
  clear hP hQ hfm hp hq hr hs hall hG R
  generalize statesK p n.toNat r.toNat = l at HR
  go_enter Tryd.func11, Tryd.ntmps11
  go_upto_region 1 with fail
  clear hWA
  go_wp2
  refine wp_loop_rounds 3 ?_
  rw [rounds_succ]
  go_upto_region 4 with fail
  have hx2 := hx1.step ((Below.refl _ _).alloc (Nat.le_refl _) (.cells #[.slice ca p.code.length cc, .int .i64 p.ticks, .slice sa p.spans.length sc, .slice wa p.wires.length wc'] 26))
  have q1 := HC.out _ hx2.below
  clear HC
  go_wp2_with (go_at_call 12; refine q1.mono ?_; rintro e w2 ⟨rfl, b2⟩; clear q1)
  have hx3 := hx2.step b2
  clear k0 k1 k2 k3 d0 d1 d2 d3 hi0 hx1 hx2 b2
  rw [rounds_succ]
  go_upto_region 4 with fail
  have hx4 := hx3.step ((Below.refl _ _).alloc (Nat.le_refl _) (.cells #[.slice xa q.code.length xc, .int .i64 q.ticks, .slice ya q.spans.length yc, .slice za q.wires.length zc'] 26))
  have q2 := HD.out _ hx4.below
  clear HD
  go_wp2_with (go_at_call 12; refine q2.mono ?_; rintro e w4 ⟨rfl, b4⟩; clear q2)
  have hx5 := hx4.step b4
  clear hx3 hx4 b4 hi1
  rw [rounds_succ]
  obtain ⟨k0, k1, k2, k3⟩ := hx5.cs
  have q3 := HR.out w4 hx5.below
  clear HR
  go_wp2_with (first
    | (go_at_call 8; refine q3.mono ?_; rintro e w6 ⟨lb, lo, lc, rfl, hl1, hl2, b6⟩; clear q3 k0 k1 k2 k3; have hx6 := hx5.step b6; obtain ⟨d0, d1, d2, d3⟩ := hx6.ds; have q4 := HS.out w6 hx6.below; clear HS)
    | (go_at_call 8; refine q4.mono ?_; rintro e w7 ⟨ao, cap, rfl, b7⟩; clear q4))
  go_ret2
  exact ⟨rfl, (hx6.step b7).below⟩
theorem partAt_yes {l m : List St} {k : Nat} (h : ∀ (j : Nat) s t, j < k → l[j]? = some s → m[j]? = some t → likeS s t = true) (hl : k ≤ l.length) (hm : k ≤ m.length) : partAt l m 0 = partAt (l.drop k) (m.drop k) k := by
  induction k with
  | zero => rfl
  | succ k ih =>
    rw [ih (fun j s t hj => h j s t (by omega)) (by omega) (by omega), partAt_drop (List.getElem?_eq_getElem (show k < l.length by omega)) (List.getElem?_eq_getElem (show k < m.length by omega))]
    rw [if_pos (h k _ _ (by omega) (List.getElem?_eq_getElem _) (List.getElem?_eq_getElem _))]
set_option maxRecDepth 100000 in
set_option maxHeartbeats 8000000 in
theorem psm_ok {G : World → Prop} (p q : PD) (vc vs vw ic is iw : Value) (n r : Int) (w : World) (hfm : Forms w) (hP : Pln w vc vs vw p) (hQ : Pln w ic is iw q) (hG : G w) (hall : ∀ w w', G w → Below w.heap.size w w' → G w') (R : SgtRun G) (hp : plchk p = 0) (hq : plchk q = 0) (hr : runE p n r = 0) (hs : runE q n r = 0) :
    Calls Tryd.prog 11 #[plV vc p.ticks vs vw, plV ic q.ticks is iw, .int .i64 n, .int .i64 r] w fun e w' => e = .returned (.tuple #[.int .i64 (partAt (statesK p n.toNat r.toNat) (statesK q n.toNat r.toNat) 0), .nilIface]) ∧ Below w.heap.size w w' := by
  obtain ⟨ca, cc, rfl⟩ := hP.code.form
  obtain ⟨sa, sc, rfl⟩ := hP.spans.form
  obtain ⟨wa, wc', rfl⟩ := hP.wires.form
  obtain ⟨xa, xc, rfl⟩ := hQ.code.form
  obtain ⟨ya, yc, rfl⟩ := hQ.spans.form
  obtain ⟨za, zc', rfl⟩ := hQ.wires.form
  have hx1 := Bxt.first w (.slice ca p.code.length cc) p.ticks (.slice sa p.spans.length sc) (.slice wa p.wires.length wc') (.slice xa q.code.length xc) q.ticks (.slice ya q.spans.length yc) (.slice za q.wires.length zc')
  generalize hWA : (w.alloc (.cells #[.slice ca p.code.length cc, .int .i64 p.ticks, .slice sa p.spans.length sc, .slice wa p.wires.length wc'] 26)).alloc (.cells #[.slice xa q.code.length xc, .int .i64 q.ticks, .slice ya q.spans.length yc, .slice za q.wires.length zc'] 26) = WA at hx1
  have HC : Hid (∀ W, Below w.heap.size w W → Calls Tryd.prog 12 #[.agg #[.slice ca p.code.length cc, .int .i64 p.ticks, .slice sa p.spans.length sc, .slice wa p.wires.length wc']] W fun e w' => e = .returned (wErr (plchk p)) ∧ Below W.heap.size W w') := fun W hb => plcheck_any p _ _ _ _ (hfm.all hb) (hP.all hb)
  have HD : Hid (∀ W, Below w.heap.size w W → Calls Tryd.prog 12 #[.agg #[.slice xa q.code.length xc, .int .i64 q.ticks, .slice ya q.spans.length yc, .slice za q.wires.length zc']] W fun e w' => e = .returned (wErr (plchk q)) ∧ Below W.heap.size W w') := fun W hb => plcheck_any q _ _ _ _ (hfm.all hb) (hQ.all hb)
  unfold plV
  rw [hq] at HD
  rw [hp] at HC
  simp only [wErr, if_true] at HC HD
  have HR : Hid (∀ W, Below w.heap.size w W → Calls Tryd.prog 8 #[.agg #[.slice ca p.code.length cc, .int .i64 p.ticks, .slice sa p.spans.length sc, .slice wa p.wires.length wc'], .int .i64 n, .int .i64 r] W fun e w' => ∃ b off cap, e = .returned (.tuple #[.slice (some ⟨b, off, none⟩) (statesK p n.toNat r.toNat).length cap, .nilIface]) ∧ b < w'.heap.size ∧ (∀ (i : Nat) s, (statesK p n.toNat r.toNat)[i]? = some s → StC w' b (off + i * 8) s) ∧ Below W.heap.size W w') := fun W hb => by
    refine (R p _ _ _ n r W (hall w W hG hb) (hP.all hb)).mono ?_
    rintro e w' ⟨v, rfl, h1, h2⟩
    rw [hr, if_pos rfl] at h1
    rw [hr]
    rcases h1 with ⟨h3, _⟩ | ⟨b, off, cap, rfl, _, h4, h5⟩
    · have := statesK_len p n.toNat r.toNat
      rw [h3] at this
      cases this
    · exact ⟨b, off, cap, rfl, h4, h5, h2⟩
  have HS : Hid (∀ W, Below w.heap.size w W → Calls Tryd.prog 8 #[.agg #[.slice xa q.code.length xc, .int .i64 q.ticks, .slice ya q.spans.length yc, .slice za q.wires.length zc'], .int .i64 n, .int .i64 r] W fun e w' => ∃ b off cap, e = .returned (.tuple #[.slice (some ⟨b, off, none⟩) (statesK q n.toNat r.toNat).length cap, .nilIface]) ∧ b < w'.heap.size ∧ (∀ (i : Nat) s, (statesK q n.toNat r.toNat)[i]? = some s → StC w' b (off + i * 8) s) ∧ Below W.heap.size W w') := fun W hb => by
    refine (R q _ _ _ n r W (hall w W hG hb) (hQ.all hb)).mono ?_
    rintro e w' ⟨v, rfl, h1, h2⟩
    rw [hs, if_pos rfl] at h1
    rw [hs]
    rcases h1 with ⟨h3, _⟩ | ⟨b, off, cap, rfl, _, h4, h5⟩
    · have := statesK_len q n.toNat r.toNat
      rw [h3] at this
      cases this
    · exact ⟨b, off, cap, rfl, h4, h5, h2⟩
  obtain ⟨k0, k1, k2, k3⟩ := hx1.cs
  obtain ⟨d0, d1, d2, d3⟩ := hx1.ds
  have hi0 := fun W => (index_two (.slice ca p.code.length cc) (.int .i64 p.ticks) (.slice sa p.spans.length sc) (.slice wa p.wires.length wc') (.slice xa q.code.length xc) (.int .i64 q.ticks) (.slice ya q.spans.length yc) (.slice za q.wires.length zc') W).1
  have hi1 := fun W => (index_two (.slice ca p.code.length cc) (.int .i64 p.ticks) (.slice sa p.spans.length sc) (.slice wa p.wires.length wc') (.slice xa q.code.length xc) (.int .i64 q.ticks) (.slice ya q.spans.length yc) (.slice za q.wires.length zc') W).2
  have hll : (statesK p n.toNat r.toNat).length = (statesK q n.toNat r.toNat).length := by rw [statesK_len, statesK_len]
  have hl3 : (statesK p n.toNat r.toNat).length ≤ 2001 := by
    rw [statesK_len]
    unfold runE at hr
    rw [if_pos hp] at hr
    split at hr
    · cases hr
    · omega
  have HLL : Hid ((statesK p n.toNat r.toNat).length = (statesK q n.toNat r.toNat).length) := hll
  clear hP hQ hfm hp hq hr hs hall hG R hll
  generalize statesK p n.toNat r.toNat = l at *
  generalize statesK q n.toNat r.toNat = m at *
  go_enter Tryd.func11, Tryd.ntmps11
  go_upto_region 1 with fail
  clear hWA
  go_wp2
  refine wp_loop_rounds 3 ?_
  rw [rounds_succ]
  go_upto_region 4 with fail
  have hx2 := hx1.step ((Below.refl _ _).alloc (Nat.le_refl _) (.cells #[.slice ca p.code.length cc, .int .i64 p.ticks, .slice sa p.spans.length sc, .slice wa p.wires.length wc'] 26))
  have q1 := HC.out _ hx2.below
  clear HC
  go_wp2_with (go_at_call 12; refine q1.mono ?_; rintro e w2 ⟨rfl, b2⟩; clear q1)
  have hx3 := hx2.step b2
  clear k0 k1 k2 k3 d0 d1 d2 d3 hi0 hx1 hx2 b2
  rw [rounds_succ]
  go_upto_region 4 with fail
  have hx4 := hx3.step ((Below.refl _ _).alloc (Nat.le_refl _) (.cells #[.slice xa q.code.length xc, .int .i64 q.ticks, .slice ya q.spans.length yc, .slice za q.wires.length zc'] 26))
  have q2 := HD.out _ hx4.below
  clear HD
  go_wp2_with (go_at_call 12; refine q2.mono ?_; rintro e w4 ⟨rfl, b4⟩; clear q2)
  have hx5 := hx4.step b4
  clear hx3 hx4 b4 hi1
  rw [rounds_succ]
  obtain ⟨k0, k1, k2, k3⟩ := hx5.cs
  have q3 := HR.out w4 hx5.below
  clear HR
  go_wp2_with (first
    | (go_at_call 8; refine q3.mono ?_; rintro e w6 ⟨lb, lo, lc, rfl, hl1, hl2, b6⟩; clear q3 k0 k1 k2 k3; have hx6 := hx5.step b6; obtain ⟨d0, d1, d2, d3⟩ := hx6.ds; have q4 := HS.out w6 hx6.below; clear HS)
    | (go_at_call 8; refine q4.mono ?_; rintro e w7 ⟨mb, mo, mc, rfl, hm1, hm2, b7⟩; clear q4))
  have hx7 := hx6.step b7
  have HA : Hid (∀ (i : Nat) s, l[i]? = some s → StC w7 lb (lo + i * 8) s) := fun i s h => (hl2 i s h).block (b7.block lb hl1)
  have HB : Hid (∀ (i : Nat) s, m[i]? = some s → StC w7 mb (mo + i * 8) s) := hm2
  have hl4 : lb < w7.heap.size := Nat.lt_of_lt_of_le hl1 b7.size
  clear hl2 hm2 d0 d1 d2 d3 hx5 hx6 b6 b7 hl1
  have hgd := guardSt
  go_loopw [52] (fun i wr => ∃ k : Nat, k ≤ l.length ∧ i = .int .i64 k ∧ (∀ (j : Nat) s t, j < k → l[j]? = some s → m[j]? = some t → likeS s t = true) ∧ Below w7.heap.size w7 wr) (fun i _ => l.length - (intOf i).toNat)
  case atStart => exact ⟨0, Nat.zero_le _, rfl, fun j s t hj => by omega, Below.refl _ _⟩
  case round =>
    obtain ⟨k, hk, rfl, hall, hbw⟩ := hrel
    have HY : Hid (∀ (j : Nat) s t, j < k → l[j]? = some s → m[j]? = some t → likeS s t = true) := hall
    have hsz := hbw.size
    clear hall
    by_cases hkl : k < l.length
    · have hki : (k : Int) < (l.length : Int) := by omega
      have hkm' : k < m.length := by rw [← HLL.out]; exact hkl
      have hkm : (k : Int) < (m.length : Int) := by omega
      obtain ⟨s, hs⟩ : ∃ s, l[k]? = some s := ⟨_, List.getElem?_eq_getElem hkl⟩
      obtain ⟨u, hu⟩ : ∃ u, m[k]? = some u := ⟨_, List.getElem?_eq_getElem hkm'⟩
      have HD : Hid (∀ h : (∀ (j : Nat) s t, j < k → l[j]? = some s → m[j]? = some t → likeS s t = true), partAt l m 0 = if sameS s u = true then partAt (l.drop (k + 1)) (m.drop (k + 1)) (k + 1) else (k : Int)) := fun h => (partAt_yes h (by omega) (by omega)).trans (partAt_drop hs hu)
      have HSU : Hid (l[k]? = some s ∧ m[k]? = some u) := ⟨hs, hu⟩
      obtain ⟨s0, s1, s2, s3, s4, s5, s6, s7⟩ := (HA.out k s hs).block (hbw.block lb hl4)
      have HT : Hid (∀ o, StC (wr.alloc o) mb (mo + k * 8) u) := fun o => ((HB.out k u hu).block (hbw.block mb hm1)).block (((Below.refl wr.heap.size wr).alloc (Nat.le_refl _) o).block mb (by omega))
      have hnq := neq_st2 s u
      clear hs hu
      cases hss : sameS s u with
      | true =>
        rw [hss] at hnq
        have HSS : Hid (likeS s u = true) := hss
        clear hss HD
        go_upto_region 17 with fail
        obtain ⟨t0, t1, t2, t3, t4, t5, t6, t7⟩ := HT.out (.cells #[.int .i64 s.p, .int .i64 (s.c 0), .int .i64 (s.c 1), .int .i64 (s.c 2), .int .i64 (s.c 3), .int .i64 (s.c 4), .int .i64 (s.c 5), .bool s.f] 35)
        go_quiet (fail)
        go_wp2
        go_roundw
        case rel =>
          refine ⟨k + 1, by omega, by go_num, fun j x y hj hx hy => ?_, below_dN (hbw.alloc hbw.size _) _⟩
          by_cases hjk : j < k
          · exact HY.out j x y hjk hx hy
          · obtain rfl : j = k := by omega
            rw [HSU.out.1] at hx
            rw [HSU.out.2] at hy
            obtain rfl := Option.some.inj hx
            obtain rfl := Option.some.inj hy
            exact HSS.out
        case measure => simp [intOf]; omega
      | false =>
        have HX : Hid (partAt l m 0 = (k : Int)) := by
          show _ = _
          rw [HD.out HY.out, hss, if_neg (by decide)]
        rw [hss] at hnq
        clear hss HD
        go_upto_region 17 with fail
        obtain ⟨t0, t1, t2, t3, t4, t5, t6, t7⟩ := HT.out (.cells #[.int .i64 s.p, .int .i64 (s.c 0), .int .i64 (s.c 1), .int .i64 (s.c 2), .int .i64 (s.c 3), .int .i64 (s.c 4), .int .i64 (s.c 5), .bool s.f] 35)
        go_quiet (fail)
        go_wp2
        go_ret2
        exact ⟨by rw [HX.out]; rfl, (hx7.step (below_dN (hbw.alloc hbw.size _) _)).below⟩
    · obtain rfl : k = l.length := by omega
      have hki : decide ((l.length : Int) < (l.length : Int)) = false := decide_eq_false (by omega)
      have HX : Hid (partAt l m 0 = -1) := by
        show _ = _
        rw [partAt_yes HY.out (Nat.le_refl _) (Nat.le_of_eq HLL.out), partAt_end (Nat.le_refl _)]
      clear HY
      go_wp2
      go_ret2
      exact ⟨by rw [HX.out]; rfl, (hx7.step hbw).below⟩
/-- Same does what the laws ask of it. -/
theorem prg_same {G : World → Prop} (hF : ∀ w, G w → Forms w) (hall : ∀ w w', G w → Below w.heap.size w w' → G w') (R : SgtRun G) : PrgSame G := fun p q vc vs vw ic is iw n r W hG hP hQ => by
  by_cases hp : plchk p = 0
  · by_cases hq : plchk q = 0
    · by_cases h1 : r < 0 ∨ (p.code.length : Int) ≤ r ∨ n < 0 ∨ 2000 < n
      · have he : likeE p q n r = 1 := by
          unfold likeE
          rw [if_pos hp, if_pos hq, if_pos (by omega)]
        have ha : likeAt p q n r = 0 := by
          unfold likeAt
          rw [if_neg (by omega)]
        rw [he, ha]
        exact psm_rp p q vc vs vw ic is iw n r W (hF W hG) hP hQ hG hall R hp hq (by unfold runE; rw [if_pos hp, if_pos h1])
      · have hr : runE p n r = 0 := by
          unfold runE
          rw [if_pos hp, if_neg h1]
        by_cases h2 : (q.code.length : Int) ≤ r
        · have he : likeE p q n r = 1 := by
            unfold likeE
            rw [if_pos hp, if_pos hq, if_pos (by omega)]
          have ha : likeAt p q n r = 0 := by
            unfold likeAt
            rw [if_neg (by omega)]
          rw [he, ha]
          exact psm_rq p q vc vs vw ic is iw n r W (hF W hG) hP hQ hG hall R hp hq hr (by unfold runE; rw [if_pos hq, if_pos (by omega)])
        · have he : likeE p q n r = 0 := by
            unfold likeE
            rw [if_pos hp, if_pos hq, if_neg (by omega)]
          have ha : likeAt p q n r = partAt (statesK p n.toNat r.toNat) (statesK q n.toNat r.toNat) 0 := by
            unfold likeAt
            rw [if_pos he]
          rw [he, ha]
          exact psm_ok p q vc vs vw ic is iw n r W (hF W hG) hP hQ hG hall R hp hq hr (by unfold runE; rw [if_pos hq, if_neg (by omega)])
    · have he : likeE p q n r = plchk q := by
        unfold likeE
        rw [if_pos hp, if_neg hq]
      have ha : likeAt p q n r = 0 := by
        unfold likeAt
        rw [if_neg (by rw [he]; exact hq)]
      rw [he, ha]
      exact psm_q p q vc vs vw ic is iw n r W (hF W hG) hP hQ hp hq
  · have he : likeE p q n r = plchk p := by
      unfold likeE
      rw [if_neg hp]
    have ha : likeAt p q n r = 0 := by
      unfold likeAt
      rw [if_neg (by rw [he]; exact hp)]
    rw [he, ha]
    exact psm_p p q vc vs vw ic is iw n r W (hF W hG) hP hQ hp
end Go.Proofs.YtajfgmlockjmhaeDoor
namespace Go.Proofs.YtajfgmlockjmhaeDoor
open Go.RowKit

/-- The first of a room's states. -/
def stsK (p : PD) (t r : Nat) : List St := (List.range t).map fun i => (kT p i).rooms.getD r stNew
theorem stsK_len (p : PD) (t r : Nat) : (stsK p t r).length = t := by simp [stsK]
theorem stsK_succ (p : PD) (t r : Nat) : stsK p (t + 1) r = stsK p t r ++ [(kT p t).rooms.getD r stNew] := by
  unfold stsK
  rw [List.range_succ, List.map_append]
  rfl
theorem stsK_all (p : PD) (n r : Nat) : stsK p (n + 1) r = statesK p n r := rfl
/-- A row of the caller's own has grown. -/
theorem KTouch.rowG {w w2 wa : World} {row : Option Nat} (hb : Below w.heap.size w w2) (hg : w2.grownBy wa row) : KTouch row.toList w wa :=
  ⟨hg.os.trans hb.os, hg.tape.trans hb.tape, hg.output.trans hb.output, Nat.le_trans hb.size hg.size, fun k hk hm => by
    have := hb.size
    exact (hg.block k (by omega) (fun e => hm (by rw [← e]; simp))).trans (hb.block k hk)⟩
/-- A kernel, and a row of states beside it. -/
structure SRn {G : World → Prop} (C : KerC G) (w0 wr : World) (p : PD) (vc vs vw : Value) (kb B r t : Nat) (v : Value) (F : List Nat) : Prop where
  K : C.K w0 wr p vc vs vw (kT p t) kb F
  own : wr.ownsRow B 35 8 v t (stCells (stsK p t r))
  ap : ∀ g, v.ownBlock = some g → g ∉ F
  B1 : w0.heap.size ≤ B
  B2 : B ≤ wr.heap.size
/-- One more state, and a tick. -/
theorem SRn.more {G : World → Prop} {C : KerC G} {w0 wr w3 w8 : World} {p : PD} {vc vs vw : Value} {kb B r t : Nat} {v v' : Value} {F : List Nat} {s : St} (h : SRn C w0 wr p vc vs vw kb B r t v F) (hs : (kT p t).rooms.getD r stNew = s) (b3 : Below wr.heap.size wr w3) (hg : w3.grownBy w8 v.ownBlock)
    (own8 : w8.ownsRow B 35 8 v' (t + 1) (stCells (stsK p t r) ++ [.int .i64 s.p, .int .i64 (s.c 0), .int .i64 (s.c 1), .int .i64 (s.c 2), .int .i64 (s.c 3), .int .i64 (s.c 4), .int .i64 (s.c 5), .bool s.f])) (hnew : ∀ g, v'.ownBlock = some g → v.ownBlock = some g ∨ w3.heap.size ≤ g) (hG : G w0) (hp : plchk p = 0) (ht : t < 1000000) :
    Calls Tryd.prog 24 #[.pointer (some ⟨kb, 0, none⟩)] w8 fun e w' => ∃ a b c d, e = .returned (.agg #[.int .i64 a, .int .i64 b, .int .i64 c, .int .i64 d]) ∧ ∃ F', SRn C w0 w' p vc vs vw kb B r (t + 1) v' F' := by
  have tk := KTouch.rowG b3 hg
  have hK8 := C.frame h.K tk (fun m hm => by
    have hm' : v.ownBlock = some m := by simpa using hm
    exact ⟨h.ap m hm', Nat.le_trans h.B1 (h.own.lt m hm').1⟩)
  refine (C.tick hG hK8 hp (kT_ok hp t) (by rw [kT_time]; omega)).mono ?_
  rintro e w' ⟨rfl, F', hK', tk', hF'⟩
  have hs8 := tk.size
  have hs3 := b3.size
  have hg8 := hg.size
  have hap8 : ∀ g, v'.ownBlock = some g → g ∉ F := fun g hg' hm => by
    rcases hnew g hg' with h1 | h1
    · exact h.ap g h1 hm
    · have := (C.ge h.K g hm).2
      omega
  refine ⟨_, _, _, _, rfl, F', hK', ?_, fun g hg' hm => ?_, h.B1, Nat.le_trans h.B2 (Nat.le_trans hs8 tk'.size)⟩
  · rw [stsK_succ, stCells_snoc, hs]
    exact own_block own8 (fun g hg' => tk'.block g (own8.lt g hg').2 (hap8 g hg'))
  · rcases hF' g hm with h1 | h1
    · exact hap8 g hg' h1
    · have := (own8.lt g hg').2
      omega
set_option maxRecDepth 100000 in
set_option maxHeartbeats 8000000 in
theorem srun_wrong {G : World → Prop} (C : KerC G) (p : PD) (vc vs vw : Value) (n r : Int) (W : World) (hG : G W) (hP : Pln W vc vs vw p) (hp : plchk p ≠ 0) :
    Calls Tryd.prog 8 #[plV vc p.ticks vs vw, .int .i64 n, .int .i64 r] W fun e w' => e = .returned (.tuple #[.slice none 0 0, wErr (plchk p)]) ∧ Below W.heap.size W w' := by
  obtain ⟨ca, cc, rfl⟩ := hP.code.form
  obtain ⟨sa, sc, rfl⟩ := hP.spans.form
  obtain ⟨wa, wc', rfl⟩ := hP.wires.form
  have hx0 := Bx.first W (.slice ca p.code.length cc) p.ticks (.slice sa p.spans.length sc) (.slice wa p.wires.length wc')
  have q1 := C.no p _ _ _ _ (C.all _ _ hG hx0.below) (hP.all hx0.below) hp
  rw [wErr_not hp] at q1 ⊢
  unfold plV at q1 ⊢
  have k0 := hx0.c0
  have k1 := hx0.c1
  have k2 := hx0.c2
  have k3 := hx0.c3
  clear hP hG
  generalize plchk p = z at q1 hp ⊢
  go_enter Tryd.func8, Tryd.ntmps8
  go_wp2_with (go_at_call 22; refine q1.mono ?_; rintro e w1 ⟨x, rfl, b1⟩)
  go_ret2
  exact ⟨rfl, (hx0.step b1).below⟩
set_option maxRecDepth 100000 in
set_option maxHeartbeats 8000000 in
theorem srun_n {G : World → Prop} (C : KerC G) (p : PD) (vc vs vw : Value) (n r : Int) (W : World) (hG : G W) (hP : Pln W vc vs vw p) (hp : plchk p = 0) (hn : n < 0 ∨ 2000 < n) :
    Calls Tryd.prog 8 #[plV vc p.ticks vs vw, .int .i64 n, .int .i64 r] W fun e w' => e = .returned (.tuple #[.slice none 0 0, wErr 1]) ∧ Below W.heap.size W w' := by
  obtain ⟨ca, cc, rfl⟩ := hP.code.form
  obtain ⟨sa, sc, rfl⟩ := hP.spans.form
  obtain ⟨wa, wc', rfl⟩ := hP.wires.form
  have hx0 := Bx.first W (.slice ca p.code.length cc) p.ticks (.slice sa p.spans.length sc) (.slice wa p.wires.length wc')
  have q1 : Calls Tryd.prog 22 #[.agg #[.slice ca p.code.length cc, .int .i64 p.ticks, .slice sa p.spans.length sc, .slice wa p.wires.length wc']] (W.alloc (.cells #[.slice ca p.code.length cc, .int .i64 p.ticks, .slice sa p.spans.length sc, .slice wa p.wires.length wc'] 26)) fun e w' => ∃ kb, e = .returned (.tuple #[.pointer (some ⟨kb, 0, none⟩), .nilIface]) ∧ Below W.heap.size W w' := by
    refine (C.new p _ _ _ _ (C.all _ _ hG hx0.below) (hP.all hx0.below) hp).mono ?_
    rintro e w' ⟨kb, F, rfl, hK⟩
    exact ⟨kb, rfl, hx0.below.trans ((C.since hK).mono (by simp))⟩
  unfold plV
  have k0 := hx0.c0
  have k1 := hx0.c1
  have k2 := hx0.c2
  have k3 := hx0.c3
  clear hP hG hp
  have hcase : decide (n < 0) = true ∨ (decide (n < 0) = false ∧ decide (2000 < n) = true) := by
    by_cases h : n < 0
    · exact Or.inl (decide_eq_true h)
    · exact Or.inr ⟨decide_eq_false h, decide_eq_true (hn.resolve_left h)⟩
  clear hn
  rcases hcase with h1 | ⟨h1, h2⟩
  · go_enter Tryd.func8, Tryd.ntmps8
    go_wp2_with (go_at_call 22; refine q1.mono ?_; rintro e w1 ⟨kb, rfl, b1⟩)
    go_ret2
    exact ⟨rfl, b1⟩
  · go_enter Tryd.func8, Tryd.ntmps8
    go_wp2_with (go_at_call 22; refine q1.mono ?_; rintro e w1 ⟨kb, rfl, b1⟩)
    go_ret2
    exact ⟨rfl, b1⟩
set_option maxRecDepth 100000 in
set_option maxHeartbeats 8000000 in
theorem srun_room {G : World → Prop} (C : KerC G) (p : PD) (vc vs vw : Value) (n : Nat) (r : Int) (W : World) (hG : G W) (hP : Pln W vc vs vw p) (hp : plchk p = 0) (hn : n ≤ 2000) (hr : r < 0 ∨ (p.code.length : Int) ≤ r) :
    Calls Tryd.prog 8 #[plV vc p.ticks vs vw, .int .i64 n, .int .i64 r] W fun e w' => e = .returned (.tuple #[.slice none 0 0, wErr 1]) ∧ Below W.heap.size W w' := by
  obtain ⟨ca, cc, rfl⟩ := hP.code.form
  obtain ⟨sa, sc, rfl⟩ := hP.spans.form
  obtain ⟨wa, wc', rfl⟩ := hP.wires.form
  have hx0 := Bx.first W (.slice ca p.code.length cc) p.ticks (.slice sa p.spans.length sc) (.slice wa p.wires.length wc')
  have q1 : Calls Tryd.prog 22 #[.agg #[.slice ca p.code.length cc, .int .i64 p.ticks, .slice sa p.spans.length sc, .slice wa p.wires.length wc']] (W.alloc (.cells #[.slice ca p.code.length cc, .int .i64 p.ticks, .slice sa p.spans.length sc, .slice wa p.wires.length wc'] 26)) fun e w' => ∃ kb, e = .returned (.tuple #[.pointer (some ⟨kb, 0, none⟩), .nilIface]) ∧ Below W.heap.size W w' ∧ Calls Tryd.prog 23 #[.pointer (some ⟨kb, 0, none⟩), .int .i64 r] w' fun e w2 => e = .returned (.tuple #[stA stNew, wErr 1]) ∧ Below w'.heap.size w' w2 := by
    refine (C.new p _ _ _ _ (C.all _ _ hG hx0.below) (hP.all hx0.below) hp).mono ?_
    rintro e w' ⟨kb, F, rfl, hK⟩
    have hno : noRoom (newK p) r = true := by
      have hl : (newK p).rooms.length = p.code.length := by simp [newK]
      unfold noRoom
      rw [hl, Bool.or_eq_true]
      rcases hr with h | h
      · exact Or.inl (decide_eq_true h)
      · exact Or.inr (decide_eq_true h)
    have hS := C.state r hK (kT_ok hp 0) hp
    have hrk : roomK (newK p) r = stNew := by
      unfold roomK
      rw [if_pos hno]
    rw [hrk, hno] at hS
    exact ⟨kb, rfl, hx0.below.trans ((C.since hK).mono (by simp)), hS⟩
  unfold plV
  have k0 := hx0.c0
  have k1 := hx0.c1
  have k2 := hx0.c2
  have k3 := hx0.c3
  clear hP hG hp hr
  have hn0 : decide ((n : Int) < 0) = false := decide_eq_false (by omega)
  have hn1 : decide (2000 < (n : Int)) = false := decide_eq_false (by omega)
  have hn3 : (0 : Int) < (n : Int) + 1 := by omega
  unfold stA stNew wErr at q1
  go_enter Tryd.func8, Tryd.ntmps8
  go_wp2_with (go_at_call 22; refine q1.mono ?_; rintro e w1 ⟨kb, rfl, b1, q2⟩)
  refine wp_loop_rounds 1 ?_
  rw [rounds_succ]
  go_wp2_with (go_at_call 23; refine q2.mono ?_; rintro e w2 ⟨rfl, b2⟩)
  go_ret2
  refine ⟨rfl, ?_⟩
  have hb := b1.trans (b2.mono b1.size)
  have hs := hb.size
  repeat' first | exact hb | refine Below.drew ?_ | refine Below.alloc ?_ (by first | omega | (simp; omega)) _ | refine Below.setCell ?_ (by first | omega | (simp; omega)) _
set_option maxRecDepth 100000 in
set_option maxHeartbeats 8000000 in
theorem srun_ok {G : World → Prop} (C : KerC G) (p : PD) (vc vs vw : Value) (n r : Nat) (W : World) (hG : G W) (hP : Pln W vc vs vw p) (hp : plchk p = 0) (hn : n ≤ 2000) (hr : r < p.code.length) :
    Calls Tryd.prog 8 #[plV vc p.ticks vs vw, .int .i64 n, .int .i64 r] W fun e w' => ∃ v, e = .returned (.tuple #[v, .nilIface]) ∧ StL w' v (statesK p n r) ∧ Below W.heap.size W w' := by
  obtain ⟨jj, hj, hy0, hy1, hy2⟩ := info_parts infoSt
  obtain ⟨ca, cc, rfl⟩ := hP.code.form
  obtain ⟨sa, sc, rfl⟩ := hP.spans.form
  obtain ⟨wa, wc', rfl⟩ := hP.wires.form
  have hx0 := Bx.first W (.slice ca p.code.length cc) p.ticks (.slice sa p.spans.length sc) (.slice wa p.wires.length wc')
  have HG : Hid (G (W.alloc (.cells #[.slice ca p.code.length cc, .int .i64 p.ticks, .slice sa p.spans.length sc, .slice wa p.wires.length wc'] 26))) := C.all _ _ hG hx0.below
  have hA := hx0.below
  have HN : Hid (Calls Tryd.prog 22 #[.agg #[.slice ca p.code.length cc, .int .i64 p.ticks, .slice sa p.spans.length sc, .slice wa p.wires.length wc']] (W.alloc (.cells #[.slice ca p.code.length cc, .int .i64 p.ticks, .slice sa p.spans.length sc, .slice wa p.wires.length wc'] 26)) fun e w' => ∃ kb F, e = .returned (.tuple #[.pointer (some ⟨kb, 0, none⟩), .nilIface]) ∧ C.K (W.alloc (.cells #[.slice ca p.code.length cc, .int .i64 p.ticks, .slice sa p.spans.length sc, .slice wa p.wires.length wc'] 26)) w' p (.slice ca p.code.length cc) (.slice sa p.spans.length sc) (.slice wa p.wires.length wc') (newK p) kb F) := C.new p _ _ _ _ HG.out (hP.all hx0.below) hp
  unfold plV
  have k0 := hx0.c0
  have k1 := hx0.c1
  have k2 := hx0.c2
  have k3 := hx0.c3
  have HGs : Hid (∀ t, noRoom (kT p t) r = false ∧ roomK (kT p t) r = (kT p t).rooms.getD r stNew) := fun t => by
    have hl : (kT p t).rooms.length = p.code.length := (kT_ok hp t).rl
    have hno : noRoom (kT p t) r = false := by
      unfold noRoom
      rw [hl, Bool.or_eq_false_iff]
      exact ⟨decide_eq_false (by omega), decide_eq_false (by omega)⟩
    refine ⟨hno, ?_⟩
    unfold roomK
    rw [if_neg (by rw [hno]; decide), Int.toNat_natCast]
  clear hP hG
  have hn0 : decide ((n : Int) < 0) = false := decide_eq_false (by omega)
  have hn1 : decide (2000 < (n : Int)) = false := decide_eq_false (by omega)
  go_enter Tryd.func8, Tryd.ntmps8
  go_wp2_with (go_at_call 22; refine HN.out.mono ?_; rintro e w1 ⟨kb, F, rfl, hK⟩)
  clear HN
  generalize W.alloc (.cells #[.slice ca p.code.length cc, .int .i64 p.ticks, .slice sa p.spans.length sc, .slice wa p.wires.length wc'] 26) = W0 at *
  go_loopw [10, 30] (fun v i wr => ∃ (t : Nat) (F : List Nat), t ≤ n + 1 ∧ i = .int .i64 t ∧ SRn C W0 wr p (.slice ca p.code.length cc) (.slice sa p.spans.length sc) (.slice wa p.wires.length wc') kb w1.heap.size r t v F) (fun _ i _ => n + 1 - (intOf i).toNat)
  case atStart => exact ⟨0, F, Nat.zero_le _, rfl, hK, World.ownsRow_nil _ _ _ _, fun g hg => (by cases hg), (C.since hK).size, Nat.le_refl _⟩
  case round =>
    clear hK
    obtain ⟨t, F', htn, rfl, hst⟩ := hrel
    obtain ⟨vo, vn, vk, rfl⟩ := own_form hst.own
    have hbw := C.since hst.K
    by_cases htl : t < n + 1
    · have hti : (t : Int) < (n : Int) + 1 := by omega
      obtain ⟨hno, hrk⟩ := HGs.out t
      obtain ⟨s, hs⟩ : ∃ s, (kT p t).rooms.getD r stNew = s := ⟨_, rfl⟩
      have HS : Hid ((kT p t).rooms.getD r stNew = s) := hs
      have hS := C.state r hst.K (kT_ok hp t) hp
      rw [hno, hrk, hs] at hS
      have HT : Hid (Calls Tryd.prog 23 #[.pointer (some ⟨kb, 0, none⟩), .int .i64 r] wr fun e w2 => e = .returned (.tuple #[.agg #[.int .i64 s.p, .int .i64 (s.c 0), .int .i64 (s.c 1), .int .i64 (s.c 2), .int .i64 (s.c 3), .int .i64 (s.c 4), .int .i64 (s.c 5), .bool s.f], .nilIface]) ∧ Below wr.heap.size wr w2) := hS
      have HR : Hid (SRn C W0 wr p (.slice ca p.code.length cc) (.slice sa p.spans.length sc) (.slice wa p.wires.length wc') kb w1.heap.size r t (.slice vo vn vk) F') := hst
      have hown0 := hst.own
      have hB2 := hst.B2
      clear hS hs hst hno hrk
      go_upto_region 9 with fail
      go_cut [11, 12, 30] from 30 to 47 (fun s11 s12 s30 wx => s12 = .nilIface ∧ s30 = .int .i64 t ∧ ∃ g, s11 = .pointer (some ⟨g, 0, none⟩) ∧ StC wx g 0 s ∧ Below wr.heap.size wr wx)
      case first =>
        go_wp2_with (go_at_call 23; refine HT.out.mono ?_; rintro e w2 ⟨rfl, b2⟩)
        go_meet
        case rel =>
          refine ⟨rfl, rfl, w2.heap.size, rfl, ?_, ?_⟩
          · constructor <;> simp [go_sem]
          · have hs2 := b2.size
            repeat' first | exact b2 | refine Below.drew ?_ | refine Below.alloc ?_ (by first | omega | (simp; omega)) _ | refine Below.setCell ?_ (by first | omega | (simp; omega)) _
      case rest =>
        obtain ⟨rfl, rfl, g, rfl, hsc, hbc⟩ := hcut
        obtain ⟨q0, q1, q2, q3, q4, q5, q6, q7⟩ := hsc
        have own3 := own_block hown0 (fun k hk => hbc.block k (hown0.lt k hk).2)
        have hsz := hbc.size
        clear HT hown0
        go_wp2_with (at_builtin; refine wpList_append_at _ rfl _ _ 27 rfl w1.heap.size 35 jj _ 8 64 Tryd.underlying27 hj hy0 hy1 hy2 rfl (by decide) _ _ _ rfl (own3.alloc _) ⟨wc.heap.size, 0, none⟩ 1 1 [.int .i64 s.p, .int .i64 (s.c 0), .int .i64 (s.c 1), .int .i64 (s.c 2), .int .i64 (s.c 3), .int .i64 (s.c 4), .int .i64 (s.c 5), .bool s.f] rfl rfl ?c1A ?c2A ?c3A ?c4A ?c5A ?_)
        try (case c1A => exact st_new rfl s _)
        case c2A => first | exact st_one s | exact ⟨rfl, rfl, rfl, rfl, rfl, rfl, rfl, rfl⟩
        case c3A => unfold maxLen; omega
        case c4A => omega
        case c5A => first | omega | (simp; omega)
        intro v1 w8 own8 hg8 hnw8
        have hb3 : Below wr.heap.size wr (wc.alloc (.cells #[.int .i64 s.p, .int .i64 (s.c 0), .int .i64 (s.c 1), .int .i64 (s.c 2), .int .i64 (s.c 3), .int .i64 (s.c 4), .int .i64 (s.c 5), .bool s.f] 35)) := hbc.alloc hbc.size _
        have HQ : Hid (Calls Tryd.prog 24 #[.pointer (some ⟨kb, 0, none⟩)] w8 fun e w' => ∃ a b c d, e = .returned (.agg #[.int .i64 a, .int .i64 b, .int .i64 c, .int .i64 d]) ∧ ∃ F', SRn C W0 w' p (.slice ca p.code.length cc) (.slice sa p.spans.length sc) (.slice wa p.wires.length wc') kb w1.heap.size r (t + 1) v1 F') := HR.out.more HS.out hb3 hg8 own8 (fun g hg => by have := hnw8 g hg; simpa using this) HG.out hp (by omega)
        obtain ⟨g8, cap8, rfl⟩ := own_succ own8
        clear own8 hg8 hnw8 own3 q0 q1 q2 q3 q4 q5 q6 q7 hb3
        go_wp2_with (go_at_call 24; refine HQ.out.mono ?_; rintro e w9 ⟨ea, eb, ec, ed, rfl, F9, hst9⟩)
        go_roundw
        case rel => exact ⟨t + 1, F9, by omega, by go_num, hst9⟩
        case measure => simp [intOf]; omega
    · obtain rfl : t = n + 1 := by omega
      have hti : decide (((n + 1 : Nat) : Int) < (n : Int) + 1) = false := decide_eq_false (by omega)
      have HS : Hid (StL wr (.slice vo vn vk) (statesK p n r)) := StL.own (by rw [statesK_len]; exact hst.own)
      have HB' : Hid (Below W.heap.size W wr) := hA.trans (hbw.mono hA.size)
      clear hst
      go_wp2
      go_ret2
      exact ⟨_, rfl, HS.out, HB'.out⟩
/-- Run does what the laws of sight ask of it. -/
theorem sgt_run {G : World → Prop} (C : KerC G) : SgtRun G := fun p vc vs vw n r W hG hP => by
  by_cases hp : plchk p = 0
  · by_cases hn : n < 0 ∨ 2000 < n
    · have he : runE p n r = 1 := by
        unfold runE
        rw [if_pos hp, if_pos (by omega)]
      rw [he]
      refine (srun_n C p vc vs vw n r W hG hP hp hn).mono ?_
      rintro e w' ⟨rfl, hb⟩
      exact ⟨_, rfl, Or.inl ⟨rfl, _, _, rfl⟩, hb⟩
    · obtain ⟨n, rfl⟩ : ∃ m : Nat, n = m := ⟨n.toNat, by omega⟩
      by_cases hr : r < 0 ∨ (p.code.length : Int) ≤ r
      · have he : runE p n r = 1 := by
          unfold runE
          rw [if_pos hp, if_pos (by omega)]
        rw [he]
        refine (srun_room C p vc vs vw n r W hG hP hp (by omega) hr).mono ?_
        rintro e w' ⟨rfl, hb⟩
        exact ⟨_, rfl, Or.inl ⟨rfl, _, _, rfl⟩, hb⟩
      · obtain ⟨r, rfl⟩ : ∃ m : Nat, r = m := ⟨r.toNat, by omega⟩
        have he : runE p n r = 0 := by
          unfold runE
          rw [if_pos hp, if_neg (by omega)]
        rw [he, if_pos rfl, Int.toNat_natCast, Int.toNat_natCast]
        exact srun_ok C p vc vs vw n r W hG hP hp (by omega) (by omega)
  · have he : runE p n r = plchk p := by
      unfold runE
      rw [if_neg hp]
    rw [he, if_neg hp]
    refine (srun_wrong C p vc vs vw n r W hG hP hp).mono ?_
    rintro e w' ⟨rfl, hb⟩
    exact ⟨_, rfl, Or.inl ⟨rfl, _, _, rfl⟩, hb⟩
end Go.Proofs.YtajfgmlockjmhaeDoor
namespace Go.Proofs.YtajfgmlockjmhaeDoor
open Go.RowKit

set_option maxRecDepth 100000 in
set_option maxHeartbeats 2000000 in
theorem wnew_no (f t k d : Int) (w : World) (h : wchk f t k d ≠ 0) : Calls Tryd.prog 39 #[wV f t k d] w fun e w' => e = .returned (.tuple #[.pointer none, .iface 71 (.int .i64 (wchk f t k d))]) ∧ Below w.heap.size w w' := by
  have hA : Below w.heap.size w (w.alloc (.cells #[.int .i64 f, .int .i64 t, .int .i64 k, .int .i64 d] 58)) := (Below.refl _ _).alloc (Nat.le_refl _) _
  have hc := wcheck_any f t k d (w.alloc (.cells #[.int .i64 f, .int .i64 t, .int .i64 k, .int .i64 d] 58))
  rw [wErr_not h] at hc
  clear h
  generalize wchk f t k d = q at hc ⊢
  unfold wV at hc ⊢
  go_enter Tryd.func39, Tryd.ntmps39
  go_wp2_with (go_at_call 48; refine hc.mono ?_; rintro e w1 ⟨rfl, b1⟩; clear hc)
  go_ret2
  exact ⟨rfl, hA.trans (b1.mono hA.size)⟩
set_option maxRecDepth 100000 in
set_option maxHeartbeats 2000000 in
theorem wnew_ok (f t k d : Int) (w : World) (h : wchk f t k d = 0) : Calls Tryd.prog 39 #[wV f t k d] w fun e w' => ∃ b, e = .returned (.tuple #[.pointer (some ⟨b, 0, none⟩), .nilIface]) ∧ LnC w' b k d 0 (.slice none 0 0) ∧ w.heap.size ≤ b ∧ b < w'.heap.size ∧ Below w.heap.size w w' := by
  have hA : Below w.heap.size w (w.alloc (.cells #[.int .i64 f, .int .i64 t, .int .i64 k, .int .i64 d] 58)) := (Below.refl _ _).alloc (Nat.le_refl _) _
  have hc := wcheck_any f t k d (w.alloc (.cells #[.int .i64 f, .int .i64 t, .int .i64 k, .int .i64 d] 58))
  rw [h] at hc
  have hc' : Calls Tryd.prog 48 #[wV f t k d] (w.alloc (.cells #[.int .i64 f, .int .i64 t, .int .i64 k, .int .i64 d] 58)) fun e w' => e = .returned .nilIface ∧ Below (w.heap.size + 1) (w.alloc (.cells #[.int .i64 f, .int .i64 t, .int .i64 k, .int .i64 d] 58)) w' := hc.mono fun e w' ⟨h1, h2⟩ => ⟨h1, by simpa using h2⟩
  clear h hc
  unfold wV at hc' ⊢
  go_enter Tryd.func39, Tryd.ntmps39
  go_wp2_with (go_at_call 48; refine hc'.mono ?_; rintro e w1 ⟨rfl, b1⟩; clear hc'; have r2 : w1.cell? ⟨w.heap.size, 2, none⟩ = some (.int .i64 k) := (b1.cell (p := ⟨w.heap.size, 2, none⟩) (by simp)).trans (by simp); have r3 : w1.cell? ⟨w.heap.size, 3, none⟩ = some (.int .i64 d) := (b1.cell (p := ⟨w.heap.size, 3, none⟩) (by simp)).trans (by simp))
  go_ret2
  have hz : w.heap.size + 1 ≤ w1.heap.size := by have := b1.size; simpa using this
  refine ⟨w1.heap.size, rfl, ⟨by simp, by simp, by simp, by simp, by simp, by simp⟩, by omega, by simp, ?_⟩
  exact (hA.trans (b1.mono (by omega))).alloc (by omega) _

set_option maxRecDepth 100000 in
set_option maxHeartbeats 2000000 in
theorem send_range (v : Value) (n : Int) (w : World) (h : n < 0 ∨ 1000 ≤ n) : Calls Tryd.prog 84 #[v, .int .i64 n] w fun e w' => e = .returned (.tuple #[.bool false, .iface 71 (.int .i64 1)]) ∧ w' = w := by
  have ho := wout_yes n w h
  clear h
  go_enter Tryd.func84, Tryd.ntmps84
  go_wp2_with (go_at_call 92; refine ho.mono ?_; rintro e w1 ⟨rfl, hw1⟩; subst hw1; clear ho)
  go_ret2
  exact ⟨rfl, rfl⟩

set_option maxRecDepth 100000 in
set_option maxHeartbeats 4000000 in
theorem send_full (base b : Nat) (dp : Int) (xs : List Int) (ls : Int) (v : Value) (n : Int) (w : World) (hn0 : 0 ≤ n) (hn1 : n < 1000) (hls : 0 ≤ ls ∧ ls < 1000000000) (hL : Ln w base b 2 dp xs ls v) (hdp : dp ≤ (xs.length : Int)) :
    Calls Tryd.prog 84 #[.pointer (some ⟨b, 0, none⟩), .int .i64 n] w fun e w' => e = .returned (.tuple #[.bool false, .nilIface]) ∧ Ln w' base b 2 dp xs (ls + 1) v ∧ Touch w w' b v v := by
  have hcc := hL.c
  have hlt := hcc.lt
  obtain ⟨c0, c1, c2, c3, f2, f3⟩ := hcc
  obtain ⟨ao, cap, rfl⟩ : ∃ ao cap, v = .slice ao xs.length cap := by
    rcases row_form hL.row with ⟨rfl, h⟩ | ⟨g, cap, rfl⟩
    · exact ⟨_, _, by rw [h]⟩
    · exact ⟨_, _, rfl⟩
  have HL : Hid (Ln w base b 2 dp xs ls (.slice ao xs.length cap)) := hL
  clear hL
  obtain ⟨hls0, hls1⟩ := hls
  go_enter Tryd.func84, Tryd.ntmps84
  go_wp2_with (go_at_call 92; refine (wout_no n _ hn0 hn1).mono ?_; rintro e wz ⟨rfl, hwz⟩; subst wz)
  go_quiet (fail)
  go_wp2
  go_ret2
  have hq := HL.out.below (below_dN (Below.refl _ w) nq)
  exact ⟨rfl, ⟨hq.c.lost _, ownsRow_setCell_below hq.row (a := ⟨b, 3, none⟩) hq.lt _, hq.lt, by have := hq.le; simpa using this⟩, ((Touch.refl w b _).dN nq).set 3 _⟩

set_option maxRecDepth 100000 in
set_option maxHeartbeats 4000000 in
theorem send_room (base b : Nat) (dp : Int) (xs : List Int) (ls : Int) (v : Value) (n : Int) (w : World) (hn0 : 0 ≤ n) (hn1 : n < 1000) (hL : Ln w base b 2 dp xs ls v) (hdp : (xs.length : Int) < dp) (hx : xs.length ≤ 1000000) :
    Calls Tryd.prog 84 #[.pointer (some ⟨b, 0, none⟩), .int .i64 n] w fun e w' => ∃ v', e = .returned (.tuple #[.bool true, .nilIface]) ∧ Ln w' base b 2 dp (xs ++ [n]) ls v' ∧ Touch w w' b v v' := by
  obtain ⟨ii, hi, hz0, hz1, hz2⟩ := info_parts infoInt
  have hcc := hL.c
  have hlt := hcc.lt
  obtain ⟨c0, c1, c2, c3, f2, f3⟩ := hcc
  obtain ⟨ao, cap, rfl⟩ : ∃ ao cap, v = .slice ao xs.length cap := by
    rcases row_form hL.row with ⟨rfl, h⟩ | ⟨g, cap, rfl⟩
    · exact ⟨_, _, by rw [h]⟩
    · exact ⟨_, _, rfl⟩
  have HL : Hid (Ln w base b 2 dp xs ls (.slice ao xs.length cap)) := hL
  clear hL
  go_enter Tryd.func84, Tryd.ntmps84
  go_wp2_with (go_at_call 92; refine (wout_no n _ hn0 hn1).mono ?_; rintro e wz ⟨rfl, hwz⟩; subst wz)
  go_quiet (fail)
  have hq := HL.out.below (below_dN (Below.refl _ w) nq)
  have HQ : Hid (Ln (w.drewN nq) base b 2 dp xs ls (.slice ao xs.length cap)) := hq
  have hrow := hq.row
  clear hq
  go_wp2_with (at_builtin; refine wpList_append_at _ rfl _ _ 47 rfl base 3 ii (.int .i64 0) 1 8 Tryd.underlying47 hi hz0 hz1 hz2 rfl (by decide) _ _ _ rfl (hrow.alloc _) ⟨(w.drewN nq).heap.size, 0, none⟩ 1 1 [.int .i64 n] rfl rfl ?c1A ?c2A ?c3A ?c4A ?c5A ?_)
  case c1A => exact one_new _ _ _
  case c2A => exact one_one n
  case c3A => unfold maxLen; omega
  case c4A => omega
  case c5A => have := HQ.out.le; simp at this ⊢; omega
  intro v1 w2 own1 hg1 hat1
  have hne1 : some b ≠ (Value.slice ao xs.length cap).ownBlock := fun e => by have := (hrow.lt _ e.symm).1; have := HQ.out.lt; omega
  have hs1 : w.heap.size + 1 ≤ w2.heap.size := by have := hg1.size; simpa using this
  have hT : Touch w w2 b (.slice ao xs.length cap) v1 := (((Touch.refl w b _).dN nq).alloc _).grown hg1 (fun k hk => by have := hat1 k hk; simpa using this)
  have hc2 : LnC w2 b 2 dp ls (.slice ao xs.length cap) := (HQ.out.c.block (Below.heap_alloc _ _ _ (by simpa using hlt))).block (hg1.block b (by simp; omega) hne1)
  have HC : Hid (LnC w2 b 2 dp ls (.slice ao xs.length cap)) := hc2
  obtain ⟨k0, k1, k2, k3, k4, k5⟩ := hc2
  clear hrow hg1 hat1 c0 c1 c2 c3 f2 f3 k0 k1 k3 k5
  have hlt2 : b < w2.heap.size := by omega
  have hrow2 := ownsRow_setCell_below own1 (a := ⟨b, 2, none⟩) HQ.out.lt v1
  obtain ⟨g1, cap1, rfl⟩ : ∃ g cap, v1 = .slice (some ⟨g, 0, none⟩) (xs.length + 1) cap := by
    rcases row_form own1 with ⟨_, h⟩ | h
    · omega
    · exact h
  clear own1
  go_wp2
  go_ret2
  exact ⟨_, rfl, ⟨HC.out.items _, by rw [ints_snoc, List.length_append]; exact hrow2, HQ.out.lt, by have := HQ.out.le; simp at this ⊢; omega⟩, hT.set 2 _⟩

set_option maxRecDepth 100000 in
set_option maxHeartbeats 4000000 in
theorem send_sample (base b : Nat) (xs : List Int) (ls : Int) (v : Value) (n : Int) (w : World) (hn0 : 0 ≤ n) (hn1 : n < 1000) (hL : Ln w base b 1 1 xs ls v) :
    Calls Tryd.prog 84 #[.pointer (some ⟨b, 0, none⟩), .int .i64 n] w fun e w' => ∃ v', e = .returned (.tuple #[.bool true, .nilIface]) ∧ Ln w' base b 1 1 [n] ls v' ∧ Touch w w' b v v' := by
  obtain ⟨ii, hi, hz0, hz1, hz2⟩ := info_parts infoInt
  have hcc := hL.c
  have hlt := hcc.lt
  obtain ⟨c0, c1, c2, c3, f2, f3⟩ := hcc
  have HL : Hid (Ln w base b 1 1 xs ls v) := hL
  have hrw := hL.row
  clear hL
  rcases row_form hrw with ⟨rfl, hx0⟩ | ⟨g, cap, rfl⟩
  · have hrow0 := World.ownsRow_nil w base 3 1
    clear hrw
    have hL1 : Ln (w.setCell ⟨b, 2, none⟩ (.slice none 0 0)) base b 1 1 [] ls (.slice none 0 0) := ⟨HL.out.c.items _, ownsRow_setCell_below hrow0 (a := ⟨b, 2, none⟩) HL.out.lt _, HL.out.lt, by have := HL.out.le; simpa using this⟩
    have hT1 : Touch w (w.setCell ⟨b, 2, none⟩ (.slice none 0 0)) b (.slice none 0 0) (.slice none 0 0) := ((Touch.refl w b _).set 2 _).cut rfl
    have HL1 : Hid (Ln (w.setCell ⟨b, 2, none⟩ (.slice none 0 0)) base b 1 1 [] ls (.slice none 0 0)) := hL1
    clear hL1
    go_enter Tryd.func84, Tryd.ntmps84
    go_wp2_with (go_at_call 92; refine (wout_no n _ hn0 hn1).mono ?_; rintro e wz ⟨rfl, hwz⟩; subst wz)
    go_quiet (fail)
    have hq := HL1.out.below (below_dN (Below.refl _ _) nq)
    have HQ : Hid (Ln ((w.setCell ⟨b, 2, none⟩ (.slice none 0 0)).drewN nq) base b 1 1 [] ls (.slice none 0 0)) := hq
    have hrow := hq.row
    clear hq
    go_wp2_with (at_builtin; refine wpList_append_at _ rfl _ _ 47 rfl base 3 ii (.int .i64 0) 1 8 Tryd.underlying47 hi hz0 hz1 hz2 rfl (by decide) _ _ _ rfl (hrow.alloc _) ⟨w.heap.size, 0, none⟩ 1 1 [.int .i64 n] rfl rfl ?c1A ?c2A ?c3A ?c4A ?c5A ?_)
    case c1A => exact one_new_at (by simp) _ _
    case c2A => exact one_one n
    case c3A => unfold maxLen; simp
    case c4A => simp
    case c5A => have := HQ.out.le; simp at this ⊢; omega
    intro v1 w2 own1 hg1 hat1
    have hne1 : some b ≠ (Value.slice none 0 0).ownBlock := fun e => by have := (hrow.lt _ e.symm).1; have := HQ.out.lt; omega
    have hs1 : w.heap.size + 1 ≤ w2.heap.size := by have := hg1.size; simpa using this
    have hT : Touch w w2 b (.slice none 0 0) v1 := ((hT1.dN nq).alloc _).grown hg1 (fun k hk => by have := hat1 k hk; simpa using this)
    have hc2 : LnC w2 b 1 1 ls (.slice none 0 0) := (HQ.out.c.block (Below.heap_alloc _ _ _ (by simpa using hlt))).block (hg1.block b (by simp; omega) hne1)
    have HC : Hid (LnC w2 b 1 1 ls (.slice none 0 0)) := hc2
    obtain ⟨k0, k1, k2, k3, k4, k5⟩ := hc2
    clear hrow hg1 hat1 c0 c1 c2 c3 f2 f3 k0 k1 k3 k5
    have hlt2 : b < w2.heap.size := by omega
    have hrow2 := ownsRow_setCell_below own1 (a := ⟨b, 2, none⟩) HQ.out.lt v1
    obtain ⟨g1, cap1, rfl⟩ : ∃ g cap, v1 = .slice (some ⟨g, 0, none⟩) 1 cap := by
      rcases row_form own1 with ⟨_, h⟩ | h
      · simp at h
      · simpa using h
    clear own1
    go_wp2
    go_ret2
    exact ⟨_, rfl, ⟨HC.out.items _, hrow2, HQ.out.lt, by have := HQ.out.le; simp at this ⊢; omega⟩, hT.set 2 _⟩
  · obtain ⟨hg0, hg1, hg2, hg3, _, _, _⟩ := own_cap hrw
    have hrow0 := own_cut hrw (Nat.zero_le _)
    unfold maxLen at hg3
    clear hrw
    have hL1 : Ln (w.setCell ⟨b, 2, none⟩ (.slice (some ⟨g, 0, none⟩) 0 cap)) base b 1 1 [] ls (.slice (some ⟨g, 0, none⟩) 0 cap) := ⟨HL.out.c.items _, ownsRow_setCell_below hrow0 (a := ⟨b, 2, none⟩) HL.out.lt _, HL.out.lt, by have := HL.out.le; simpa using this⟩
    have hT1 : Touch w (w.setCell ⟨b, 2, none⟩ (.slice (some ⟨g, 0, none⟩) 0 cap)) b (.slice (some ⟨g, 0, none⟩) xs.length cap) (.slice (some ⟨g, 0, none⟩) 0 cap) := ((Touch.refl w b _).set 2 _).cut rfl
    have HL1 : Hid (Ln (w.setCell ⟨b, 2, none⟩ (.slice (some ⟨g, 0, none⟩) 0 cap)) base b 1 1 [] ls (.slice (some ⟨g, 0, none⟩) 0 cap)) := hL1
    clear hL1
    go_enter Tryd.func84, Tryd.ntmps84
    go_wp2_with (go_at_call 92; refine (wout_no n _ hn0 hn1).mono ?_; rintro e wz ⟨rfl, hwz⟩; subst wz)
    go_quiet (fail)
    have hq := HL1.out.below (below_dN (Below.refl _ _) nq)
    have HQ : Hid (Ln ((w.setCell ⟨b, 2, none⟩ (.slice (some ⟨g, 0, none⟩) 0 cap)).drewN nq) base b 1 1 [] ls (.slice (some ⟨g, 0, none⟩) 0 cap)) := hq
    have hrow := hq.row
    clear hq
    go_wp2_with (at_builtin; refine wpList_append_at _ rfl _ _ 47 rfl base 3 ii (.int .i64 0) 1 8 Tryd.underlying47 hi hz0 hz1 hz2 rfl (by decide) _ _ _ rfl (hrow.alloc _) ⟨w.heap.size, 0, none⟩ 1 1 [.int .i64 n] rfl rfl ?c1A ?c2A ?c3A ?c4A ?c5A ?_)
    case c1A => exact one_new_at (by simp) _ _
    case c2A => exact one_one n
    case c3A => unfold maxLen; simp
    case c4A => simp
    case c5A => have := HQ.out.le; simp at this ⊢; omega
    intro v1 w2 own1 hg1 hat1
    have hne1 : some b ≠ (Value.slice (some ⟨g, 0, none⟩) 0 cap).ownBlock := fun e => by have := (hrow.lt _ e.symm).1; have := HQ.out.lt; omega
    have hs1 : w.heap.size + 1 ≤ w2.heap.size := by have := hg1.size; simpa using this
    have hT : Touch w w2 b (.slice (some ⟨g, 0, none⟩) xs.length cap) v1 := ((hT1.dN nq).alloc _).grown hg1 (fun k hk => by have := hat1 k hk; simpa using this)
    have hc2 : LnC w2 b 1 1 ls (.slice (some ⟨g, 0, none⟩) 0 cap) := (HQ.out.c.block (Below.heap_alloc _ _ _ (by simpa using hlt))).block (hg1.block b (by simp; omega) hne1)
    have HC : Hid (LnC w2 b 1 1 ls (.slice (some ⟨g, 0, none⟩) 0 cap)) := hc2
    obtain ⟨k0, k1, k2, k3, k4, k5⟩ := hc2
    clear hrow hg1 hat1 c0 c1 c2 c3 f2 f3 k0 k1 k3 k5
    have hlt2 : b < w2.heap.size := by omega
    have hrow2 := ownsRow_setCell_below own1 (a := ⟨b, 2, none⟩) HQ.out.lt v1
    obtain ⟨g1, cap1, rfl⟩ : ∃ g cap, v1 = .slice (some ⟨g, 0, none⟩) 1 cap := by
      rcases row_form own1 with ⟨_, h⟩ | h
      · simp at h
      · simpa using h
    clear own1
    go_wp2
    go_ret2
    exact ⟨_, rfl, ⟨HC.out.items _, hrow2, HQ.out.lt, by have := HQ.out.le; simp at this ⊢; omega⟩, hT.set 2 _⟩
end Go.Proofs.YtajfgmlockjmhaeDoor
namespace Go.Proofs.YtajfgmlockjmhaeDoor
open Go.RowKit

theorem Ln.first {w : World} {base b : Nat} {kd dp ls : Int} {x : Int} {ys : List Int} {v : Value} (h : Ln w base b kd dp (x :: ys) ls v) : ∃ g cap, v = .slice (some ⟨g, 0, none⟩) (ys.length + 1) cap ∧ w.cell? ⟨g, 0, none⟩ = some (.int .i64 x) := by
  rcases h.form with ⟨_, e⟩ | ⟨g, cap, rfl⟩
  · cases e
  · have := h.row.cells (g := g) rfl 0 (.int .i64 x) (by simp [ints])
    rw [Addr.add_lit, Nat.zero_add] at this
    exact ⟨g, cap, rfl, this⟩
theorem Ln.none {w : World} {base b : Nat} {kd dp ls : Int} {v : Value} (h : Ln w base b kd dp [] ls v) : ∃ ao cap, v = .slice ao 0 cap := by
  rcases h.form with ⟨rfl, _⟩ | ⟨g, cap, rfl⟩
  · exact ⟨_, _, rfl⟩
  · exact ⟨_, _, rfl⟩
theorem dpeek_l (base b : Nat) (l : LnD) (u : Value) (w : World) (hL : Ln w base b l.w.2.2.1 l.w.2.2.2 l.xs l.ls u) :
    Calls Tryd.prog 82 #[.pointer (some ⟨b, 0, none⟩)] w fun e w' => e = .returned (.tuple #[.int .i64 (headL l).1, .bool (headL l).2]) ∧ w' = w := by
  obtain ⟨x, xs, ls⟩ := l
  cases xs with
  | nil =>
    obtain ⟨ao, cap, rfl⟩ := Ln.none hL
    exact peek_none b _ _ ls ao cap w hL.c
  | cons n ys =>
    obtain ⟨g, cap, rfl, h1⟩ := Ln.first hL
    exact peek_some b _ _ ls g _ cap n w hL.c (by omega) h1
theorem dtake_l (base b : Nat) (l : LnD) (u : Value) (w : World) (hk : l.w.2.2.1 = 1 ∨ l.w.2.2.1 = 2) (hh : (headL l).2 = true) (hL : Ln w base b l.w.2.2.1 l.w.2.2.2 l.xs l.ls u) :
    Calls Tryd.prog 83 #[.pointer (some ⟨b, 0, none⟩)] w fun e w' => ∃ u', e = .returned (.tuple #[.int .i64 (headL l).1, .nilIface]) ∧ Ln w' base b (restL l).w.2.2.1 (restL l).w.2.2.2 (restL l).xs (restL l).ls u' ∧ Touch w w' b u u' := by
  obtain ⟨x, xs, ls⟩ := l
  simp only at hk hL
  cases xs with
  | nil => simp [headL] at hh
  | cons n ys =>
    rcases hk with h1 | h2
    · have e2 : restL ⟨x, n :: ys, ls⟩ = ⟨x, n :: ys, ls⟩ := by simp [restL, h1]
      rw [e2]
      obtain ⟨g, cap, rfl, hc⟩ := Ln.first hL
      rw [h1] at hL
      refine (take_sample b _ ls g _ cap n w hL.c (by omega) hc).mono ?_
      rintro e w' ⟨rfl, rfl⟩
      exact ⟨_, rfl, by simp only [h1]; exact hL, Touch.refl _ _ _⟩
    · have e2 : restL ⟨x, n :: ys, ls⟩ = ⟨x, ys, ls⟩ := by simp [restL, h2]
      rw [e2]
      rw [h2] at hL
      refine (take_queue base b _ ls n ys u w hL).mono ?_
      rintro e w' ⟨u', rfl, h3, h4⟩
      exact ⟨u', rfl, by simp only [h2]; exact h3, h4⟩
theorem dsend_l (base b : Nat) (l : LnD) (u : Value) (n : Int) (w : World) (hk : (l.w.2.2.1 = 1 ∧ l.w.2.2.2 = 1) ∨ l.w.2.2.1 = 2) (hn : 0 ≤ n ∧ n ≤ 999) (hls : 0 ≤ l.ls ∧ l.ls < 1000000000) (hx : l.xs.length ≤ 1000000) (hL : Ln w base b l.w.2.2.1 l.w.2.2.2 l.xs l.ls u) :
    Calls Tryd.prog 84 #[.pointer (some ⟨b, 0, none⟩), .int .i64 n] w fun e w' => ∃ u', e = .returned (.tuple #[.bool (fitL l), .nilIface]) ∧ Ln w' base b (putL l n).w.2.2.1 (putL l n).w.2.2.2 (putL l n).xs (putL l n).ls u' ∧ Touch w w' b u u' := by
  obtain ⟨x, xs, ls⟩ := l
  simp only at hk hls hx hL
  rcases hk with ⟨h1, h1'⟩ | h2
  · have e1 : fitL ⟨x, xs, ls⟩ = true := by simp [fitL, h1]
    have e2 : putL ⟨x, xs, ls⟩ n = ⟨x, [n], ls⟩ := by simp [putL, h1]
    rw [e1, e2]
    rw [h1, h1'] at hL
    refine (send_sample base b xs ls u n w hn.1 (by omega) hL).mono ?_
    rintro e w' ⟨u', rfl, h3, h4⟩
    exact ⟨u', rfl, by simp only [h1, h1']; exact h3, h4⟩
  · rw [h2] at hL
    by_cases hd : (xs.length : Int) < x.2.2.2
    · have e1 : fitL ⟨x, xs, ls⟩ = true := by simp [fitL, hd]
      have e2 : putL ⟨x, xs, ls⟩ n = ⟨x, xs ++ [n], ls⟩ := by simp [putL, h2, hd]
      rw [e1, e2]
      refine (send_room base b _ xs ls u n w hn.1 (by omega) hL hd hx).mono ?_
      rintro e w' ⟨u', rfl, h3, h4⟩
      exact ⟨u', rfl, by simp only [h2]; exact h3, h4⟩
    · have e1 : fitL ⟨x, xs, ls⟩ = false := by simp [fitL, h2]; omega
      have e2 : putL ⟨x, xs, ls⟩ n = ⟨x, xs, ls + 1⟩ := by simp [putL, h2, hd]
      rw [e1, e2]
      refine (send_full base b _ xs ls u n w hn.1 (by omega) hls hL (by omega)).mono ?_
      rintro e w' ⟨rfl, h3, h4⟩
      exact ⟨u, rfl, by simp only [h2]; exact h3, h4⟩
end Go.Proofs.YtajfgmlockjmhaeDoor

/-
  Any two states, held against each other.
-/
import Derived.Test.YteoemcekkcnplaeDoorStEq
import Derived.Test.YteoemcekkcnplaeDoorSgtMath
namespace Go.Proofs.YteoemcekkcnplaeDoor
open Go.RowKit

/-- Do two states look the same? -/
def sameS (s t : St) : Bool := decide (s.p = t.p) && (decide (s.c 0 = t.c 0) && (decide (s.c 1 = t.c 1) && (decide (s.c 2 = t.c 2) && (decide (s.c 3 = t.c 3) && (decide (s.c 4 = t.c 4) && (decide (s.c 5 = t.c 5) && (s.f == t.f)))))))
theorem sameS_iff {s t : St} : sameS s t = true ↔ StSame s t := by
  unfold sameS
  simp only [Bool.and_eq_true, decide_eq_true_eq, beq_iff_eq]
  constructor
  · rintro ⟨hp, h0, h1, h2, h3, h4, h5, hf⟩
    refine ⟨hp, fun i hi => ?_, hf⟩
    match i, hi with
    | 0, _ => exact h0
    | 1, _ => exact h1
    | 2, _ => exact h2
    | 3, _ => exact h3
    | 4, _ => exact h4
    | 5, _ => exact h5
  · intro h
    exact ⟨h.p, h.c 0 (by omega), h.c 1 (by omega), h.c 2 (by omega), h.c 3 (by omega), h.c 4 (by omega), h.c 5 (by omega), h.f⟩
theorem eqIn_six2 (a b c d e f a' b' c' d' e' f' : Int) (w : World) : (Op.equalIn 9999 33 (.agg #[.int .i64 a, .int .i64 b, .int .i64 c, .int .i64 d, .int .i64 e, .int .i64 f]) (.agg #[.int .i64 a', .int .i64 b', .int .i64 c', .int .i64 d', .int .i64 e', .int .i64 f'])).run Tryd.prog w = .ok (decide (a = a') && (decide (b = b') && (decide (c = c') && (decide (d = d') && (decide (e = e') && decide (f = f')))))) w := by
  obtain ⟨n, hn⟩ : ∃ n, n + 1 = 9999 := ⟨9998, rfl⟩
  obtain ⟨m, hm⟩ : ∃ m, n = m + 1 := ⟨9997, by omega⟩
  rw [← hn]
  clear hn
  have hq : ∀ (x y : Int) (w : World), (Op.equalIn n 3 (.int .i64 x) (.int .i64 y)).run Tryd.prog w = .ok (decide (x = y)) w := fun x y w => by
    rw [hm, run_equalIn_int w m 3 .i64 .i64 x y Tryd.underlying3]
    by_cases h : x = y <;> simp [h]
  clear hm
  simp only [Op.equalIn, Sem.run_bind, run_underlying Tryd.underlying33, Result.andThen_ok]
  by_cases h0 : a = a'
  · by_cases h1 : b = b'
    · by_cases h2 : c = c'
      · by_cases h3 : d = d'
        · by_cases h4 : e = e'
          · by_cases h5 : f = f'
            · simp [List.range', go_sem, hq, h0, h1, h2, h3, h4, h5]
            · simp [List.range', go_sem, hq, h0, h1, h2, h3, h4, h5]
          · simp [List.range', go_sem, hq, h0, h1, h2, h3, h4]
        · simp [List.range', go_sem, hq, h0, h1, h2, h3]
      · simp [List.range', go_sem, hq, h0, h1, h2]
    · simp [List.range', go_sem, hq, h0, h1]
  · simp [List.range', go_sem, hq, h0]
theorem eqIn_st2 (s t : St) (w : World) : (Op.equalIn 10000 35 (.agg #[.int .i64 s.p, .int .i64 (s.c 0), .int .i64 (s.c 1), .int .i64 (s.c 2), .int .i64 (s.c 3), .int .i64 (s.c 4), .int .i64 (s.c 5), .bool s.f]) (.agg #[.int .i64 t.p, .int .i64 (t.c 0), .int .i64 (t.c 1), .int .i64 (t.c 2), .int .i64 (t.c 3), .int .i64 (t.c 4), .int .i64 (t.c 5), .bool t.f])).run Tryd.prog w = .ok (sameS s t) w := by
  rw [run_equalIn_agg _ _ _ _ _ fieldsSt stoodSt, fieldsStIs]
  unfold sameS
  by_cases h0 : s.p = t.p
  · cases hsix : (decide (s.c 0 = t.c 0) && (decide (s.c 1 = t.c 1) && (decide (s.c 2 = t.c 2) && (decide (s.c 3 = t.c 3) && (decide (s.c 4 = t.c 4) && decide (s.c 5 = t.c 5)))))) with
    | true =>
      have e := hsix
      simp only [Bool.and_eq_true, decide_eq_true_eq] at e
      obtain ⟨e0, e1, e2, e3, e4, e5⟩ := e
      simp [go_sem, Tryd.underlying3, Tryd.underlying4, eqIn_six2, h0, e0, e1, e2, e3, e4, e5]
      by_cases hf : s.f = t.f <;> simp [hf]
    | false =>
      have e : (decide (s.c 0 = t.c 0) && (decide (s.c 1 = t.c 1) && (decide (s.c 2 = t.c 2) && (decide (s.c 3 = t.c 3) && (decide (s.c 4 = t.c 4) && (decide (s.c 5 = t.c 5) && (s.f == t.f))))))) = false := by
        revert hsix
        cases decide (s.c 0 = t.c 0) <;> cases decide (s.c 1 = t.c 1) <;> cases decide (s.c 2 = t.c 2) <;> cases decide (s.c 3 = t.c 3) <;> cases decide (s.c 4 = t.c 4) <;> cases decide (s.c 5 = t.c 5) <;> simp
      rw [e]
      simp [go_sem, Tryd.underlying3, Tryd.underlying4, eqIn_six2, h0, hsix]
  · simp [go_sem, Tryd.underlying3, Tryd.underlying4, h0]
theorem neq_st2 (s t : St) (w : World) : (binOp .neq 35 (.agg #[.int .i64 s.p, .int .i64 (s.c 0), .int .i64 (s.c 1), .int .i64 (s.c 2), .int .i64 (s.c 3), .int .i64 (s.c 4), .int .i64 (s.c 5), .bool s.f]) (.agg #[.int .i64 t.p, .int .i64 (t.c 0), .int .i64 (t.c 1), .int .i64 (t.c 2), .int .i64 (t.c 3), .int .i64 (t.c 4), .int .i64 (t.c 5), .bool t.f])).run Tryd.prog w = .ok (.bool (!(sameS s t))) w := by
  rw [run_neq_struct, eqIn_st2]
  rfl
end Go.Proofs.YteoemcekkcnplaeDoor

/-
  Two states that are the same are found the same.
-/
import Derived.Test.YteoemcekkcnplaeDoorJd1
import Derived.Laws.StructEq
namespace Go.Proofs.YteoemcekkcnplaeDoor
open Go.RowKit

theorem fieldsSt : Tryd.prog.underlying 35 = some (.struct (Tryd.prog.fieldsOf 35)) := by kernel_rfl
theorem stoodSt : Tryd.prog.stoodInHeld 35 = false := by kernel_rfl
theorem guardSt : Tryd.prog.eqGuardType Tryd.prog.depth 35 = false := by kernel_rfl
theorem fieldsStIs : Tryd.prog.fieldsOf 35 = #[{ name := "At", type := 3, offset := 0, embedded := false, tag := "", pkgPath := "", byteOffset := 0 }, { name := "Cells", type := 33, offset := 1, embedded := false, tag := "", pkgPath := "", byteOffset := 8 }, { name := "Failed", type := 4, offset := 7, embedded := false, tag := "", pkgPath := "", byteOffset := 56 }] := by kernel_rfl
theorem eqIn_six (a b c d e f : Int) (w : World) : (Op.equalIn 9999 33 (.agg #[.int .i64 a, .int .i64 b, .int .i64 c, .int .i64 d, .int .i64 e, .int .i64 f]) (.agg #[.int .i64 a, .int .i64 b, .int .i64 c, .int .i64 d, .int .i64 e, .int .i64 f])).run Tryd.prog w = .ok true w := by
  obtain ⟨n, hn⟩ : ∃ n, n + 1 = 9999 := ⟨9998, rfl⟩
  obtain ⟨m, hm⟩ : ∃ m, n = m + 1 := ⟨9997, by omega⟩
  rw [← hn]
  clear hn
  have hq : ∀ (x : Int) (w : World), (Op.equalIn n 3 (.int .i64 x) (.int .i64 x)).run Tryd.prog w = .ok true w := fun x w => by
    rw [hm, run_equalIn_int w m 3 .i64 .i64 x x Tryd.underlying3]
    simp
  clear hm
  simp only [Op.equalIn, Sem.run_bind, run_underlying Tryd.underlying33, Result.andThen_ok]
  simp [List.range', go_sem, hq]
theorem eqIn_st (p a b c d e f : Int) (g : Bool) (w : World) : (Op.equalIn 10000 35 (.agg #[.int .i64 p, .int .i64 a, .int .i64 b, .int .i64 c, .int .i64 d, .int .i64 e, .int .i64 f, .bool g]) (.agg #[.int .i64 p, .int .i64 a, .int .i64 b, .int .i64 c, .int .i64 d, .int .i64 e, .int .i64 f, .bool g])).run Tryd.prog w = .ok true w := by
  rw [run_equalIn_agg _ _ _ _ _ fieldsSt stoodSt, fieldsStIs]
  simp [go_sem, Tryd.underlying3, Tryd.underlying4, eqIn_six]
theorem eql_st (p a b c d e f : Int) (g : Bool) (w : World) : (binOp .eql 35 (.agg #[.int .i64 p, .int .i64 a, .int .i64 b, .int .i64 c, .int .i64 d, .int .i64 e, .int .i64 f, .bool g]) (.agg #[.int .i64 p, .int .i64 a, .int .i64 b, .int .i64 c, .int .i64 d, .int .i64 e, .int .i64 f, .bool g])).run Tryd.prog w = .ok (.bool true) w := by
  rw [run_eql_struct, eqIn_st]
  rfl
theorem neq_st (p a b c d e f : Int) (g : Bool) (w : World) : (binOp .neq 35 (.agg #[.int .i64 p, .int .i64 a, .int .i64 b, .int .i64 c, .int .i64 d, .int .i64 e, .int .i64 f, .bool g]) (.agg #[.int .i64 p, .int .i64 a, .int .i64 b, .int .i64 c, .int .i64 d, .int .i64 e, .int .i64 f, .bool g])).run Tryd.prog w = .ok (.bool false) w := by
  rw [run_neq_struct, eqIn_st]
  rfl
end Go.Proofs.YteoemcekkcnplaeDoor

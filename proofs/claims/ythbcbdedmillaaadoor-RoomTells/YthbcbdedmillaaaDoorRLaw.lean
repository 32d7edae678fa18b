/-
  What the laws of a room ask alike: code of one op, a state in a box, that two states are the same.
-/
import Derived.Test.YthbcbdedmillaaaDoorRoomStep4
import Derived.Laws.StructEq
namespace Go.Proofs.YthbcbdedmillaaaDoor
open Go.RowKit

theorem ops_one (W : World) (T : TypeId) (x y z : Int) : Ops (W.alloc (.cells #[.int .i64 x, .int .i64 y, .int .i64 z] T)) (.slice (some ⟨W.heap.size, 0, none⟩) 1 1) [(x, y, z)] := by
  refine Or.inr ⟨W.heap.size, 0, 1, rfl, by simp, fun i o ho => ?_⟩
  match i, ho with
  | 0, ho =>
    obtain rfl : (x, y, z) = o := by simpa using ho
    refine ⟨?_, ?_, ?_⟩ <;> simp
  | i + 1, ho => simp at ho

theorem ops_one' (W : World) (T : TypeId) (x y z : Int) (b : Nat) (h : b = W.heap.size) : Ops (W.alloc (.cells #[.int .i64 x, .int .i64 y, .int .i64 z] T)) (.slice (some ⟨b, 0, none⟩) 1 1) [(x, y, z)] := by
  subst h
  exact ops_one W T x y z
/-- A state lies in a box. -/
def SBox (w : World) (b : Nat) (s : St) : Prop := w.cell? ⟨b, 0, none⟩ = some (.int .i64 s.p) ∧ w.cell? ⟨b, 1, none⟩ = some (.int .i64 (s.c 0)) ∧ w.cell? ⟨b, 2, none⟩ = some (.int .i64 (s.c 1)) ∧ w.cell? ⟨b, 3, none⟩ = some (.int .i64 (s.c 2)) ∧ w.cell? ⟨b, 4, none⟩ = some (.int .i64 (s.c 3)) ∧ w.cell? ⟨b, 5, none⟩ = some (.int .i64 (s.c 4)) ∧ w.cell? ⟨b, 6, none⟩ = some (.int .i64 (s.c 5)) ∧ w.cell? ⟨b, 7, none⟩ = some (.bool s.f)
theorem SBox.keep {w w' : World} {b B : Nat} {s : St} (h : SBox w b s) (hb : Below B w w') (hlt : b < B) : SBox w' b s := by
  have hc : ∀ o, w'.cell? ⟨b, o, none⟩ = w.cell? ⟨b, o, none⟩ := fun o => hb.cell (p := ⟨b, o, none⟩) hlt
  unfold SBox
  simp only [hc]
  exact h
theorem SBox.new (w : World) (s : St) (T : TypeId) : SBox (w.alloc (.cells #[.int .i64 s.p, .int .i64 (s.c 0), .int .i64 (s.c 1), .int .i64 (s.c 2), .int .i64 (s.c 3), .int .i64 (s.c 4), .int .i64 (s.c 5), .bool s.f] T)) w.heap.size s := by
  unfold SBox
  refine ⟨?_, ?_, ?_, ?_, ?_, ?_, ?_, ?_⟩ <;> simp

theorem fieldsSt : Tryd.prog.underlying 40 = some (.struct (Tryd.prog.fieldsOf 40)) := by kernel_rfl
theorem stoodSt : Tryd.prog.stoodInHeld 40 = false := by kernel_rfl
theorem guardSt : Tryd.prog.eqGuardType Tryd.prog.depth 40 = false := by kernel_rfl
theorem fieldsStIs : Tryd.prog.fieldsOf 40 = #[{ name := "At", type := 3, offset := 0, embedded := false, tag := "", pkgPath := "", byteOffset := 0 }, { name := "Cells", type := 38, offset := 1, embedded := false, tag := "", pkgPath := "", byteOffset := 8 }, { name := "Failed", type := 4, offset := 7, embedded := false, tag := "", pkgPath := "", byteOffset := 56 }] := by kernel_rfl
theorem eqIn_six (a b c d e f : Int) (w : World) : (Op.equalIn 9999 38 (.agg #[.int .i64 a, .int .i64 b, .int .i64 c, .int .i64 d, .int .i64 e, .int .i64 f]) (.agg #[.int .i64 a, .int .i64 b, .int .i64 c, .int .i64 d, .int .i64 e, .int .i64 f])).run Tryd.prog w = .ok true w := by
  obtain ⟨n, hn⟩ : ∃ n, n + 1 = 9999 := ⟨9998, rfl⟩
  obtain ⟨m, hm⟩ : ∃ m, n = m + 1 := ⟨9997, by omega⟩
  rw [← hn]
  clear hn
  have hq : ∀ (x : Int) (w : World), (Op.equalIn n 3 (.int .i64 x) (.int .i64 x)).run Tryd.prog w = .ok true w := fun x w => by
    rw [hm, run_equalIn_int w m 3 .i64 .i64 x x Tryd.underlying3]
    simp
  clear hm
  simp only [Op.equalIn, Sem.run_bind, run_underlying Tryd.underlying38, Result.andThen_ok]
  simp [List.range', go_sem, hq]
theorem eqIn_st (p a b c d e f : Int) (g : Bool) (w : World) : (Op.equalIn 10000 40 (.agg #[.int .i64 p, .int .i64 a, .int .i64 b, .int .i64 c, .int .i64 d, .int .i64 e, .int .i64 f, .bool g]) (.agg #[.int .i64 p, .int .i64 a, .int .i64 b, .int .i64 c, .int .i64 d, .int .i64 e, .int .i64 f, .bool g])).run Tryd.prog w = .ok true w := by
  rw [run_equalIn_agg _ _ _ _ _ fieldsSt stoodSt, fieldsStIs]
  simp [go_sem, Tryd.underlying3, Tryd.underlying4, eqIn_six]
theorem eql_st (p a b c d e f : Int) (g : Bool) (w : World) : (binOp .eql 40 (.agg #[.int .i64 p, .int .i64 a, .int .i64 b, .int .i64 c, .int .i64 d, .int .i64 e, .int .i64 f, .bool g]) (.agg #[.int .i64 p, .int .i64 a, .int .i64 b, .int .i64 c, .int .i64 d, .int .i64 e, .int .i64 f, .bool g])).run Tryd.prog w = .ok (.bool true) w := by
  rw [run_eql_struct, eqIn_st]
  rfl
theorem neq_st (p a b c d e f : Int) (g : Bool) (w : World) : (binOp .neq 40 (.agg #[.int .i64 p, .int .i64 a, .int .i64 b, .int .i64 c, .int .i64 d, .int .i64 e, .int .i64 f, .bool g]) (.agg #[.int .i64 p, .int .i64 a, .int .i64 b, .int .i64 c, .int .i64 d, .int .i64 e, .int .i64 f, .bool g])).run Tryd.prog w = .ok (.bool false) w := by
  rw [run_neq_struct, eqIn_st]
  rfl
end Go.Proofs.YthbcbdedmillaaaDoor

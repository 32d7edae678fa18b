/-
  CodeL, FBase, WVal, FlowBase, PlanBase, FrameOwn, FlowOwn, RPl, PortL: joined into one text.
-/
import Derived.Test.YtamnfadngbbaeacGreatDoorRows
import Derived.Test.YtamnfadngbbaeacGreatDoorMathA
import Derived.WalkKit
import Derived.Test.YtamnfadngbbaeacGreatDoorRowA
import Derived.OneCell
import Derived.Laws.OwnMore
namespace Go.Proofs.YtamnfadngbbaeacGreatDoor
open Go.RowKit

def sv (l : List UInt8) : Value := .string ⟨l.toArray⟩
theorem lt_of_cell {w : World} {b o : Nat} {v : Value} (h : w.cell? ⟨b, o, none⟩ = some v) : b < w.heap.size := by
  rcases Nat.lt_or_ge b w.heap.size with h' | h'
  · exact h'
  · simp [World.cell?, Array.getElem?_eq_none h'] at h
theorem bcell {W w1 : World} (hb : Below W.heap.size W w1) : (∀ b o, b < W.heap.size → w1.cell? ⟨b, o, none⟩ = W.cell? ⟨b, o, none⟩) ∧ (∀ b o, b < W.heap.size → w1.frozen? ⟨b, o, none⟩ = W.frozen? ⟨b, o, none⟩) :=
  ⟨fun b o h => hb.cell (p := ⟨b, o, none⟩) h, fun b o h => hb.frozen (p := ⟨b, o, none⟩) h⟩
theorem ret_bool {a b : Bool} (h : a = b) : Ending.returned (.bool a) = .returned (.bool b) := by rw [h]
theorem ret_int {k : IntKind} {a b : Int} (h : a = b) : Ending.returned (.int k a) = .returned (.int k b) := by rw [h]
/-- An op as a value. -/
def opV (n a b : Int) : Value := .agg #[.int .i64 n, .int .i64 a, .int .i64 b]
theorem grown_of_below {w w' : World} (h : Below w.heap.size w w') : w.grownBy w' none := ⟨h.os, h.tape, h.output, h.size, fun k hk _ => h.block k hk⟩
theorem own_all {w w' : World} {base : Nat} {e : TypeId} {size : Nat} {v : Value} {n : Nat} {xs : List Value} (h : w.ownsRow base e size v n xs) (hb : Below w.heap.size w w') : w'.ownsRow base e size v n xs :=
  h.kept (grown_of_below hb) (by cases v.ownBlock <;> simp)
/-- A slice of numbers that can be read in the world. -/
def Ints (w : World) (v : Value) (zs : List Int) : Prop :=
  (v = .slice none 0 0 ∧ zs = []) ∨ ∃ a cap, v = .slice (some a) zs.length cap ∧ a.block < w.heap.size ∧ ∀ (i : Nat) z, zs[i]? = some z → w.cell? (a.add i) = some (.int .i64 z)
/-- Code that can be read in the world. -/
def Ops (w : World) (v : Value) (l : List O3) : Prop :=
  (l = [] ∧ ∃ ao cap, v = .slice ao 0 cap) ∨
  ∃ b off cap, v = .slice (some ⟨b, off, none⟩) l.length cap ∧ b < w.heap.size ∧
    ∀ (i : Nat) o, l[i]? = some o → w.cell? ⟨b, off + i * 3, none⟩ = some (.int .i64 o.1) ∧ w.cell? ⟨b, off + i * 3 + 1, none⟩ = some (.int .i64 o.2.1) ∧ w.cell? ⟨b, off + i * 3 + 2, none⟩ = some (.int .i64 o.2.2)
theorem Ops.all {w w' : World} {v : Value} {l : List O3} (h : Ops w v l) (hb : Below w.heap.size w w') : Ops w' v l := by
  rcases h with h | ⟨b, off, cap, rfl, hlt, hc⟩
  · exact Or.inl h
  · exact Or.inr ⟨b, off, cap, rfl, Nat.lt_of_lt_of_le hlt hb.size, fun i o ho => by
      obtain ⟨h0, h1, h2⟩ := hc i o ho
      exact ⟨(hb.cell (p := ⟨b, _, none⟩) hlt).trans h0, (hb.cell (p := ⟨b, _, none⟩) hlt).trans h1, (hb.cell (p := ⟨b, _, none⟩) hlt).trans h2⟩⟩
theorem Ops.form {w : World} {v : Value} {l : List O3} (h : Ops w v l) : ∃ ao cap, v = .slice ao l.length cap := by
  rcases h with ⟨rfl, ao, cap, rfl⟩ | ⟨b, off, cap, rfl, _⟩
  · exact ⟨ao, cap, rfl⟩
  · exact ⟨_, cap, rfl⟩
/-- An error as a value. -/
def errV (e : Int) : Value := if e = 0 then .nilIface else .iface 52 (.int .i64 e)
theorem add_block (a : Addr) (k : Nat) : (a.add k).block = a.block := by unfold Addr.add; split <;> rfl
theorem infoIntC : (Tryz.prog.info? 3).map (fun i => (i.zero, i.size, i.bytes)) = some (some (.int .i64 0), 1, 8) := by kernel_rfl
theorem ints_of_own {w : World} {base : Nat} {v : Value} {zs : List Int} (h : w.ownsRow base 3 1 v zs.length (zs.map (Value.int .i64))) : Ints w v zs := by
  have hl := h.lt
  have hcs := @World.ownsRow.cells _ _ _ _ _ _ _ h
  rcases h.2 with ⟨rfl, h0⟩ | ⟨g, cap, cur, rfl, _⟩
  · exact Or.inl ⟨rfl, List.eq_nil_of_length_eq_zero h0⟩
  · refine Or.inr ⟨⟨g, 0, none⟩, cap, rfl, (hl g rfl).2, fun i z hz => ?_⟩
    exact hcs rfl i _ (by simp [hz])
theorem ints_all {w w' : World} {v : Value} {zs : List Int} (h : Ints w v zs) (hb : Below w.heap.size w w') : Ints w' v zs := by
  rcases h with h | ⟨a, cap, rfl, ha, hc⟩
  · exact Or.inl h
  · exact Or.inr ⟨a, cap, rfl, Nat.lt_of_lt_of_le ha hb.size, fun i z hz => (hb.cell (p := a.add i) (by rw [add_block]; exact ha)).trans (hc i z hz)⟩
/-- The box of an op that code.read lays at its head, in a later world. -/
theorem op_box {w w1 : World} {x y z : Value} (b1 : Below (w.heap.size + 1) (w.alloc (.cells #[x, y, z] 73)) w1) :
    w1.cell? ⟨w.heap.size, 0, none⟩ = some x ∧ w1.cell? ⟨w.heap.size, 1, none⟩ = some y ∧ w1.cell? ⟨w.heap.size, 2, none⟩ = some z ∧ w1.frozen? ⟨w.heap.size, 0, none⟩ = false ∧ w1.frozen? ⟨w.heap.size, 1, none⟩ = false ∧ w1.frozen? ⟨w.heap.size, 2, none⟩ = false ∧ Below w.heap.size w w1 :=
  ⟨(b1.cell (p := ⟨w.heap.size, 0, none⟩) (by simp)).trans (by simp), (b1.cell (p := ⟨w.heap.size, 1, none⟩) (by simp)).trans (by simp), (b1.cell (p := ⟨w.heap.size, 2, none⟩) (by simp)).trans (by simp),
   (b1.frozen (p := ⟨w.heap.size, 0, none⟩) (by simp)).trans (by simp), (b1.frozen (p := ⟨w.heap.size, 1, none⟩) (by simp)).trans (by simp), (b1.frozen (p := ⟨w.heap.size, 2, none⟩) (by simp)).trans (by simp),
   ((Below.refl _ w).alloc (Nat.le_refl _) _).trans (b1.mono (by omega))⟩
def opRes : Option O3 → Value
  | some o => .tuple #[.agg #[.int .i64 o.1, .int .i64 o.2.1, .int .i64 o.2.2], .bool true]
  | none => .tuple #[.agg #[.int .i64 0, .int .i64 0, .int .i64 0], .bool false]
def numV (l : List UInt8) : Value := .tuple #[.int .i64 ((numB l).getD 0), .bool (numB l).isSome]
theorem slice_form {w : World} {base t n k : Nat} {v : Value} {cs : List Value} (R : w.ownsRow base t k v n cs) : ∃ g n' cap, v = .slice g n' cap := by
  rcases R.2 with ⟨h, _⟩ | ⟨g, cap, cur, h, _⟩
  · exact ⟨_, _, _, h⟩
  · exact ⟨_, _, _, h⟩

end Go.Proofs.YtamnfadngbbaeacGreatDoor
namespace Go.Proofs.YtamnfadngbbaeacGreatDoor
open Go.RowKit

theorem ltc {w : World} {b o : Nat} {v : Value} (h : w.cell? ⟨b, o, none⟩ = some v) : b < w.heap.size := by
  rcases Nat.lt_or_ge b w.heap.size with h' | h'
  · exact h'
  · simp [World.cell?, Array.getElem?_eq_none h'] at h
theorem retB {a b : Bool} (h : a = b) : Ending.returned (.bool a) = .returned (.bool b) := by rw [h]
theorem retI {k : IntKind} {a b : Int} (h : a = b) : Ending.returned (.int k a) = .returned (.int k b) := by rw [h]
/-- An error as a value. -/
def fErr (e : Int) : Value := if e = 0 then .nilIface else .iface 52 (.int .i64 e)
theorem fErr_not {e : Int} (h : e ≠ 0) : fErr e = .iface 52 (.int .i64 e) := by simp [fErr, h]
/-- The cells of spans. -/
def SpC (w : World) (b off : Nat) (l : List S3) : Prop := ∀ (i : Nat) o, l[i]? = some o → w.cell? ⟨b, off + i * 3, none⟩ = some (.int .i64 o.1) ∧ w.cell? ⟨b, off + i * 3 + 1, none⟩ = some (.int .i64 o.2.1) ∧ w.cell? ⟨b, off + i * 3 + 2, none⟩ = some (.int .i64 o.2.2)
/-- Spans that can be read in the world. -/
def Sps (w : World) (v : Value) (l : List S3) : Prop :=
  (l = [] ∧ ∃ ao cap, v = .slice ao 0 cap) ∨ ∃ b off cap, v = .slice (some ⟨b, off, none⟩) l.length cap ∧ l.length ≤ cap ∧ b < w.heap.size ∧ SpC w b off l
theorem SpC.below {w w' : World} {b off B : Nat} {l : List S3} (h : SpC w b off l) (hb : Below B w w') (hlt : b < B) : SpC w' b off l := fun i o ho => by
  obtain ⟨h0, h1, h2⟩ := h i o ho
  exact ⟨(hb.cell (p := ⟨b, _, none⟩) hlt).trans h0, (hb.cell (p := ⟨b, _, none⟩) hlt).trans h1, (hb.cell (p := ⟨b, _, none⟩) hlt).trans h2⟩
theorem SpC.take {w : World} {b off : Nat} {l : List S3} (h : SpC w b off l) (k : Nat) : SpC w b off (l.take k) := fun i o ho => by
  rw [List.getElem?_take] at ho
  split at ho
  · exact h i o ho
  · cases ho
theorem Sps.all {w w' : World} {v : Value} {l : List S3} (h : Sps w v l) (hb : Below w.heap.size w w') : Sps w' v l := by
  rcases h with h | ⟨b, off, cap, rfl, hcap, hlt, hc⟩
  · exact Or.inl h
  · exact Or.inr ⟨b, off, cap, rfl, hcap, Nat.lt_of_lt_of_le hlt hb.size, hc.below hb hlt⟩
theorem Sps.form {w : World} {v : Value} {l : List S3} (h : Sps w v l) : ∃ ao cap, v = .slice ao l.length cap := by
  rcases h with ⟨rfl, ao, cap, rfl⟩ | ⟨b, off, cap, rfl, _⟩
  · exact ⟨ao, cap, rfl⟩
  · exact ⟨_, cap, rfl⟩
theorem fidx_hit {α : Type} {p : α → Bool} : ∀ {l : List α} {k : Nat} {o : α}, (∀ i x, i < k → l[i]? = some x → p x = false) → l[k]? = some o → p o = true → l.findIdx? p = some k
  | [], k, o, _, h, _ => by simp at h
  | x :: l, 0, o, _, h, hp => by simp at h; subst h; simp [List.findIdx?_cons, hp]
  | x :: l, k + 1, o, h0, h, hp => by
    have hx : p x = false := h0 0 x (by omega) rfl
    have := fidx_hit (l := l) (k := k) (o := o) (fun i y hi hy => h0 (i + 1) y (by omega) (by simpa using hy)) (by simpa using h) hp
    simp [List.findIdx?_cons, hx, this]
theorem fidx_miss {α : Type} {p : α → Bool} {l : List α} (h : ∀ (i : Nat) x, i < l.length → l[i]? = some x → p x = false) : l.findIdx? p = none := by
  rw [List.findIdx?_eq_none_iff]
  intro x hx
  obtain ⟨i, hi, rfl⟩ := List.getElem_of_mem hx
  exact h i _ hi (by simp [hi])

set_option maxRecDepth 100000 in
set_option maxHeartbeats 1000000 in
theorem isRoom_any (r : Int) (w : World) : Calls Tryz.prog 64 #[.int .i64 r] w fun e w' => e = .returned (.bool (decide (0 ≤ r) && decide (r < 5))) ∧ Below w.heap.size w w' := by
  by_cases h : 0 ≤ r
  · by_cases h2 : r < 5
    · go_enter Tryz.func64, Tryz.ntmps64
      go_wp2
      go_ret
      exact ⟨retB (by simp <;> omega), Below.refl _ _⟩
    · have h2' : decide (r < 5) = false := by simpa using h2
      go_enter Tryz.func64, Tryz.ntmps64
      go_wp2
      go_ret
      exact ⟨retB (by simp <;> omega), Below.refl _ _⟩
  · have h' : decide (0 ≤ r) = false := by simpa using h
    go_enter Tryz.func64, Tryz.ntmps64
    go_wp2
    go_ret
    exact ⟨retB (by simp <;> omega), Below.refl _ _⟩

set_option maxRecDepth 100000 in
set_option maxHeartbeats 1000000 in
theorem ffits_any (s : S3) (n : Int) (w : World) : Calls Tryz.prog 37 #[.agg #[.int .i64 s.1, .int .i64 s.2.1, .int .i64 s.2.2], .int .i64 n] w fun e w' => e = .returned (.bool (spOk n s)) ∧ Below w.heap.size w w' := by
  obtain ⟨a, b, r⟩ := s
  simp only
  have hr := fun W => isRoom_any r W
  by_cases h1 : 0 ≤ a
  · by_cases h2 : a < b
    · by_cases h3 : b ≤ n
      · have HF : Hid (spOk n (a, b, r) = (decide (0 ≤ r) && decide (r < 5))) := by show _ = _; simp [spOk, h1, h2, h3]
        go_enter Tryz.func37, Tryz.ntmps37
        go_wp2_with (go_at_call 64; refine (hr _).mono ?_; rintro e w1 ⟨rfl, b1⟩; clear hr)
        go_ret
        exact ⟨retB HF.out.symm, ((Below.refl _ _).alloc (Nat.le_refl _) _).trans (b1.mono (by simp))⟩
      · have h3' : decide (b ≤ n) = false := by simpa using h3
        have HF : Hid (spOk n (a, b, r) = false) := by show _ = _; simp [spOk, h3]
        clear hr
        go_enter Tryz.func37, Tryz.ntmps37
        go_wp2
        go_ret
        exact ⟨retB HF.out.symm, (Below.refl _ _).alloc (Nat.le_refl _) _⟩
    · have h2' : decide (a < b) = false := by simpa using h2
      have HF : Hid (spOk n (a, b, r) = false) := by show _ = _; simp [spOk, h2]
      clear hr
      go_enter Tryz.func37, Tryz.ntmps37
      go_wp2
      go_ret
      exact ⟨retB HF.out.symm, (Below.refl _ _).alloc (Nat.le_refl _) _⟩
  · have h1' : decide (0 ≤ a) = false := by simpa using h1
    have HF : Hid (spOk n (a, b, r) = false) := by show _ = _; simp [spOk, h1]
    clear hr
    go_enter Tryz.func37, Tryz.ntmps37
    go_wp2
    go_ret
    exact ⟨retB HF.out.symm, (Below.refl _ _).alloc (Nat.le_refl _) _⟩
end Go.Proofs.YtamnfadngbbaeacGreatDoor
namespace Go.Proofs.YtamnfadngbbaeacGreatDoor
open Go.RowKit

/-- A wire as a value. -/
def wV (f t k d : Int) : Value := .agg #[.int .i64 f, .int .i64 t, .int .i64 k, .int .i64 d]
end Go.Proofs.YtamnfadngbbaeacGreatDoor
namespace Go.Proofs.YtamnfadngbbaeacGreatDoor
open Go.RowKit

/-- The cells of wires. -/
def WrC (w : World) (b off : Nat) (l : List W4) : Prop := ∀ (i : Nat) x, l[i]? = some x → w.cell? ⟨b, off + i * 4, none⟩ = some (.int .i64 x.1) ∧ w.cell? ⟨b, off + i * 4 + 1, none⟩ = some (.int .i64 x.2.1) ∧ w.cell? ⟨b, off + i * 4 + 2, none⟩ = some (.int .i64 x.2.2.1) ∧ w.cell? ⟨b, off + i * 4 + 3, none⟩ = some (.int .i64 x.2.2.2)
/-- Wires that can be read. -/
def Wrs (w : World) (v : Value) (l : List W4) : Prop :=
  (l = [] ∧ ∃ ao cap, v = .slice ao 0 cap) ∨ ∃ b off cap, v = .slice (some ⟨b, off, none⟩) l.length cap ∧ l.length ≤ cap ∧ b < w.heap.size ∧ WrC w b off l
theorem WrC.below {w w' : World} {b off B : Nat} {l : List W4} (h : WrC w b off l) (hb : Below B w w') (hlt : b < B) : WrC w' b off l := fun i o ho => by
  obtain ⟨h0, h1, h2, h3⟩ := h i o ho
  exact ⟨(hb.cell (p := ⟨b, _, none⟩) hlt).trans h0, (hb.cell (p := ⟨b, _, none⟩) hlt).trans h1, (hb.cell (p := ⟨b, _, none⟩) hlt).trans h2, (hb.cell (p := ⟨b, _, none⟩) hlt).trans h3⟩
theorem Wrs.all {w w' : World} {v : Value} {l : List W4} (h : Wrs w v l) (hb : Below w.heap.size w w') : Wrs w' v l := by
  rcases h with h | ⟨b, off, cap, rfl, hcap, hlt, hc⟩
  · exact Or.inl h
  · exact Or.inr ⟨b, off, cap, rfl, hcap, Nat.lt_of_lt_of_le hlt hb.size, hc.below hb hlt⟩
theorem Wrs.form {w : World} {v : Value} {l : List W4} (h : Wrs w v l) : ∃ ao cap, v = .slice ao l.length cap := by
  rcases h with ⟨rfl, ao, cap, rfl⟩ | ⟨b, off, cap, rfl, _⟩
  · exact ⟨ao, cap, rfl⟩
  · exact ⟨_, cap, rfl⟩
theorem Wrs.at {w : World} {ao : Option Addr} {cap : Nat} {l : List W4} (h : Wrs w (.slice ao l.length cap) l) {i : Nat} (hi : i < l.length) : ∃ b off f t k d, ao = some ⟨b, off, none⟩ ∧ b < w.heap.size ∧ l[i]? = some (f, t, k, d) ∧ w.cell? ⟨b, off + i * 4, none⟩ = some (.int .i64 f) ∧ w.cell? ⟨b, off + i * 4 + 1, none⟩ = some (.int .i64 t) ∧ w.cell? ⟨b, off + i * 4 + 2, none⟩ = some (.int .i64 k) ∧ w.cell? ⟨b, off + i * 4 + 3, none⟩ = some (.int .i64 d) := by
  rcases h with ⟨rfl, _⟩ | ⟨b, off, cap', e, _, hlt, hc⟩
  · simp at hi
  · injection e with e1
    obtain ⟨⟨f, t, k, d⟩, hx'⟩ : ∃ x : W4, l[i]? = some x := ⟨l[i], List.getElem?_eq_getElem hi⟩
    obtain ⟨h0, h1, h2, h3⟩ := hc i _ hx'
    exact ⟨b, off, f, t, k, d, e1, hlt, hx', h0, h1, h2, h3⟩
end Go.Proofs.YtamnfadngbbaeacGreatDoor
namespace Go.Proofs.YtamnfadngbbaeacGreatDoor
open Go.RowKit

/-- Codes that can be read. -/
def Cds (w : World) (v : Value) (cs : List (List O3)) : Prop :=
  (cs = [] ∧ ∃ ao cap, v = .slice ao 0 cap) ∨ ∃ b off cap, v = .slice (some ⟨b, off, none⟩) cs.length cap ∧ cs.length ≤ cap ∧ b < w.heap.size ∧ ∀ (i : Nat) c, cs[i]? = some c → ∃ u, w.cell? ⟨b, off + i, none⟩ = some u ∧ Ops w u c
theorem Cds.all {w w' : World} {v : Value} {cs : List (List O3)} (h : Cds w v cs) (hb : Below w.heap.size w w') : Cds w' v cs := by
  rcases h with h | ⟨b, off, cap, rfl, hcap, hlt, hc⟩
  · exact Or.inl h
  · refine Or.inr ⟨b, off, cap, rfl, hcap, Nat.lt_of_lt_of_le hlt hb.size, fun i c hi => ?_⟩
    obtain ⟨u, h1, h2⟩ := hc i c hi
    exact ⟨u, (hb.cell (p := ⟨b, _, none⟩) hlt).trans h1, h2.all hb⟩
theorem Cds.form {w : World} {v : Value} {cs : List (List O3)} (h : Cds w v cs) : ∃ ao cap, v = .slice ao cs.length cap := by
  rcases h with ⟨rfl, ao, cap, rfl⟩ | ⟨b, off, cap, rfl, _⟩
  · exact ⟨ao, cap, rfl⟩
  · exact ⟨_, cap, rfl⟩
theorem Cds.at {w : World} {ao : Option Addr} {cap : Nat} {cs : List (List O3)} (h : Cds w (.slice ao cs.length cap) cs) {i : Nat} (hi : i < cs.length) : ∃ b off u n g c, ao = some ⟨b, off, none⟩ ∧ b < w.heap.size ∧ cs[i]? = some c ∧ w.cell? ⟨b, off + i, none⟩ = some (.slice u n g) ∧ n = c.length ∧ Ops w (.slice u n g) c := by
  rcases h with ⟨rfl, _⟩ | ⟨b, off, cap', e, _, hlt, hc⟩
  · simp at hi
  · injection e with e1
    obtain ⟨u, h1, h2⟩ := hc i _ (List.getElem?_eq_getElem hi)
    obtain ⟨ua, uc, rfl⟩ := h2.form
    exact ⟨b, off, ua, _, uc, _, e1, hlt, List.getElem?_eq_getElem hi, h1, rfl, h2⟩
theorem Sps.at {w : World} {ao : Option Addr} {cap : Nat} {l : List S3} (h : Sps w (.slice ao l.length cap) l) {i : Nat} (hi : i < l.length) : ∃ b off f t r, ao = some ⟨b, off, none⟩ ∧ b < w.heap.size ∧ l[i]? = some (f, t, r) ∧ w.cell? ⟨b, off + i * 3, none⟩ = some (.int .i64 f) ∧ w.cell? ⟨b, off + i * 3 + 1, none⟩ = some (.int .i64 t) ∧ w.cell? ⟨b, off + i * 3 + 2, none⟩ = some (.int .i64 r) := by
  rcases h with ⟨rfl, _⟩ | ⟨b, off, cap', e, _, hlt, hc⟩
  · simp at hi
  · injection e with e1
    obtain ⟨⟨f, t, r⟩, hx'⟩ : ∃ x : S3, l[i]? = some x := ⟨l[i], List.getElem?_eq_getElem hi⟩
    obtain ⟨h0, h1, h2⟩ := hc i _ hx'
    exact ⟨b, off, f, t, r, e1, hlt, hx', h0, h1, h2⟩
/-- A plan's parts can be read. -/
structure Pln (w : World) (vc vs vw : Value) (p : PD) : Prop where
  code : Cds w vc p.code
  spans : Sps w vs p.spans
  wires : Wrs w vw p.wires
theorem Pln.all {w w' : World} {vc vs vw : Value} {p : PD} (h : Pln w vc vs vw p) (hb : Below w.heap.size w w') : Pln w' vc vs vw p := ⟨h.code.all hb, h.spans.all hb, h.wires.all hb⟩
/-- A plan as a value. -/
def plV (vc : Value) (n : Int) (vs vw : Value) : Value := .agg #[vc, .int .i64 n, vs, vw]
/-- Behind the box of a plan. -/
def Bx (w W : World) (vc : Value) (n : Int) (vs vw : Value) : Prop := Below (w.heap.size + 1) (w.alloc (.cells #[vc, .int .i64 n, vs, vw] 26)) W
theorem Bx.first (w : World) (vc : Value) (n : Int) (vs vw : Value) : Bx w (w.alloc (.cells #[vc, .int .i64 n, vs, vw] 26)) vc n vs vw := Below.refl _ _
theorem Bx.size {w W : World} {vc vs vw : Value} {n : Int} (h : Bx w W vc n vs vw) : w.heap.size + 1 ≤ W.heap.size := by
  have := Below.size h
  simpa using this
theorem Bx.step {w W W' : World} {vc vs vw : Value} {n : Int} (h : Bx w W vc n vs vw) (hb : Below W.heap.size W W') : Bx w W' vc n vs vw := Below.trans h (hb.mono h.size)
theorem Bx.dN {w W : World} {vc vs vw : Value} {n : Int} (h : Bx w W vc n vs vw) (k : Nat) : Bx w (W.drewN k) vc n vs vw := below_dN h k
theorem Bx.below {w W : World} {vc vs vw : Value} {n : Int} (h : Bx w W vc n vs vw) : Below w.heap.size w W := ((Below.refl _ _).alloc (Nat.le_refl _) _).trans (Below.mono h (Nat.le_succ _))
theorem Bx.c0 {w W : World} {vc vs vw : Value} {n : Int} (h : Bx w W vc n vs vw) : W.cell? ⟨w.heap.size, 0, none⟩ = some vc := (Below.cell h (p := ⟨w.heap.size, 0, none⟩) (by simp)).trans (by simp)
theorem Bx.c1 {w W : World} {vc vs vw : Value} {n : Int} (h : Bx w W vc n vs vw) : W.cell? ⟨w.heap.size, 1, none⟩ = some (.int .i64 n) := (Below.cell h (p := ⟨w.heap.size, 1, none⟩) (by simp)).trans (by simp)
theorem Bx.c2 {w W : World} {vc vs vw : Value} {n : Int} (h : Bx w W vc n vs vw) : W.cell? ⟨w.heap.size, 2, none⟩ = some vs := (Below.cell h (p := ⟨w.heap.size, 2, none⟩) (by simp)).trans (by simp)
theorem Bx.c3 {w W : World} {vc vs vw : Value} {n : Int} (h : Bx w W vc n vs vw) : W.cell? ⟨w.heap.size, 3, none⟩ = some vw := (Below.cell h (p := ⟨w.heap.size, 3, none⟩) (by simp)).trans (by simp)
theorem any_false {α : Type} {f : α → Bool} {l : List α} (h : ∀ (j : Nat) y, j < l.length → l[j]? = some y → f y = false) : l.any f = false := by
  rw [List.any_eq_false]
  intro x hx
  obtain ⟨j, hj⟩ := List.mem_iff_getElem?.1 hx
  rw [h j x (List.getElem?_eq_some_iff.1 hj).1 hj]
  simp
theorem any_hit {α : Type} {f : α → Bool} {l : List α} {k : Nat} {x : α} (h : l[k]? = some x) (hf : f x = true) : l.any f = true := List.any_eq_true.2 ⟨x, List.mem_of_getElem? h, hf⟩
/-- One more that is not. -/
theorem upto_next {α : Type} {f : α → Bool} {l : List α} {k : Nat} {x : α} (h : ∀ (j : Nat) y, j < k → l[j]? = some y → f y = false) (hx : l[k]? = some x) (hf : f x = false) : ∀ (j : Nat) y, j < k + 1 → l[j]? = some y → f y = false := fun j y hj hy => by
  by_cases hjk : j < k
  · exact h j y hjk hy
  · obtain rfl : j = k := by omega
    rw [hx] at hy
    obtain rfl := Option.some.inj hy
    exact hf
/-- A plan whose parts all lie from a block on: it stays where only what lies before it is written. -/
def PlnF (B : Nat) (w : World) (vc vs vw : Value) (p : PD) : Prop := ∀ w', w.heap.size ≤ w'.heap.size → (∀ b o, B ≤ b → w'.cell? ⟨b, o, none⟩ = w.cell? ⟨b, o, none⟩) → Pln w' vc vs vw p
theorem PlnF.here {B : Nat} {w : World} {vc vs vw : Value} {p : PD} (h : PlnF B w vc vs vw p) : Pln w vc vs vw p := h w (Nat.le_refl _) (fun _ _ _ => rfl)
end Go.Proofs.YtamnfadngbbaeacGreatDoor
namespace Go.Proofs.YtamnfadngbbaeacGreatDoor
open Go.RowKit

/-- The cells of spans, one behind the other. -/
def spCells (l : List S3) : List Value := l.flatMap fun o => [.int .i64 o.1, .int .i64 o.2.1, .int .i64 o.2.2]
theorem spCells_snoc (l : List S3) (o : S3) : spCells (l ++ [o]) = spCells l ++ [.int .i64 o.1, .int .i64 o.2.1, .int .i64 o.2.2] := by simp [spCells]
theorem spCells_at : ∀ (l : List S3) (i : Nat) (o : S3), l[i]? = some o → (spCells l)[i * 3]? = some (.int .i64 o.1) ∧ (spCells l)[i * 3 + 1]? = some (.int .i64 o.2.1) ∧ (spCells l)[i * 3 + 2]? = some (.int .i64 o.2.2)
  | [], i, o, h => by simp at h
  | x :: l, 0, o, h => by
    simp at h
    subst h
    simp [spCells]
  | x :: l, i + 1, o, h => by
    have := spCells_at l i o (by simpa using h)
    have e : spCells (x :: l) = [.int .i64 x.1, .int .i64 x.2.1, .int .i64 x.2.2] ++ spCells l := by simp [spCells]
    rw [e]
    refine ⟨?_, ?_, ?_⟩
    · rw [List.getElem?_append_right (by simp; omega)]
      simpa [show (i + 1) * 3 - 3 = i * 3 by omega] using this.1
    · rw [List.getElem?_append_right (by simp; omega)]
      simpa [show (i + 1) * 3 + 1 - 3 = i * 3 + 1 by omega] using this.2.1
    · rw [List.getElem?_append_right (by simp; omega)]
      simpa [show (i + 1) * 3 + 2 - 3 = i * 3 + 2 by omega] using this.2.2
theorem sps_of_own {w : World} {base : Nat} {v : Value} {l : List S3} (h : w.ownsRow base 45 3 v l.length (spCells l)) : Sps w v l := by
  have hl := h.lt
  have hcs := @World.ownsRow.cells _ _ _ _ _ _ _ h
  rcases h.2 with ⟨rfl, h0⟩ | ⟨g, cap, cur, rfl, _, _, hcap, _⟩
  · exact Or.inl ⟨List.eq_nil_of_length_eq_zero h0, _, _, rfl⟩
  · have hat : ∀ j u, (spCells l)[j]? = some u → w.cell? ⟨g, j, none⟩ = some u := fun j u hu => by
      have := hcs rfl j u hu
      unfold Addr.add at this
      split at this
      · rename_i h0; subst h0; exact this
      · simpa using this
    refine Or.inr ⟨g, 0, cap, rfl, hcap, (hl g rfl).2, fun i o ho => ?_⟩
    obtain ⟨h1, h2, h3⟩ := spCells_at l i o ho
    exact ⟨by simpa using hat _ _ h1, by simpa using hat _ _ h2, by simpa using hat _ _ h3⟩
theorem own_apart {w : World} {b1 b2 : Nat} {e1 e2 : TypeId} {s1 s2 : Nat} {v1 v2 : Value} {n1 n2 : Nat} {x1 x2 : List Value} (he : e1 ≠ e2) (h1 : w.ownsRow b1 e1 s1 v1 n1 x1) (h2 : w.ownsRow b2 e2 s2 v2 n2 x2) : v1.ownBlock = none ∨ v1.ownBlock ≠ v2.ownBlock := by
  rcases h1.2 with ⟨rfl, _⟩ | ⟨g1, c1, u1, rfl, _, hb1, _⟩
  · exact Or.inl rfl
  · rcases h2.2 with ⟨rfl, _⟩ | ⟨g2, c2, u2, rfl, _, hb2, _⟩
    · exact Or.inr (by simp [Value.ownBlock])
    · refine Or.inr fun e => ?_
      simp only [Value.ownBlock, Option.some.injEq] at e
      subst e
      rw [hb1] at hb2
      simp only [Option.some.injEq, Obj.cells.injEq] at hb2
      exact he hb2.2.1
theorem own_succ {W : World} {base : Nat} {e : TypeId} {size : Nat} {v : Value} {k : Nat} {xs : List Value} (h : W.ownsRow base e size v (k + 1) xs) : ∃ g cap, v = .slice (some ⟨g, 0, none⟩) (k + 1) cap := by
  rcases h.2 with ⟨_, h0⟩ | ⟨g, cap, cur, h1, _⟩
  · omega
  · exact ⟨g, cap, h1⟩
theorem own_form {w : World} {base : Nat} {e : TypeId} {size : Nat} {v : Value} {n : Nat} {xs : List Value} (R : w.ownsRow base e size v n xs) : ∃ g n' cap, v = .slice g n' cap := by
  rcases R.2 with ⟨h, _⟩ | ⟨g, cap, cur, h, _⟩
  · exact ⟨_, _, _, h⟩
  · exact ⟨_, _, _, h⟩
theorem infoOps : (Tryz.prog.info? 49).map (fun i => (i.zero, i.size, i.bytes)) = some (some (.slice none 0 0), 1, 24) := by kernel_rfl
theorem infoSp : (Tryz.prog.info? 45).map (fun i => (i.zero, i.size, i.bytes)) = some (some (.agg #[.int .i64 0, .int .i64 0, .int .i64 0]), 3, 24) := by kernel_rfl
theorem box_grown {W W' : World} {row : Option Nat} (hg : W.grownBy W' row) {b : Nat} (hb : b < W.heap.size) (hne : some b ≠ row) : (∀ o, W'.cell? ⟨b, o, none⟩ = W.cell? ⟨b, o, none⟩) ∧ (∀ o, W'.frozen? ⟨b, o, none⟩ = W.frozen? ⟨b, o, none⟩) :=
  ⟨fun o => World.cell?_of_block (a := ⟨b, o, none⟩) (hg.block b hb hne), fun o => World.frozen?_of_block (a := ⟨b, o, none⟩) (hg.block b hb hne)⟩
theorem sp_new (w : World) (x y z : Value) (t : TypeId) : ∀ j u, [x, y, z][j]? = some u → (w.alloc (.cells #[x, y, z] t)).cell? ((⟨w.heap.size, 0, none⟩ : Addr).add j) = some u := by
  intro j u hj
  match j, hj with
  | 0, hj => simp at hj; subst hj; simp [Addr.add]
  | 1, hj => simp at hj; subst hj; simp [Addr.add]
  | 2, hj => simp at hj; subst hj; simp [Addr.add]
end Go.Proofs.YtamnfadngbbaeacGreatDoor
namespace Go.Proofs.YtamnfadngbbaeacGreatDoor
open Go.RowKit

/-- The cells of wires, one behind the other. -/
def wrCells (l : List W4) : List Value := l.flatMap fun o => [.int .i64 o.1, .int .i64 o.2.1, .int .i64 o.2.2.1, .int .i64 o.2.2.2]
theorem wrCells_snoc (l : List W4) (o : W4) : wrCells (l ++ [o]) = wrCells l ++ [.int .i64 o.1, .int .i64 o.2.1, .int .i64 o.2.2.1, .int .i64 o.2.2.2] := by simp [wrCells]
theorem wrCells_len : ∀ (l : List W4), (wrCells l).length = l.length * 4
  | [] => rfl
  | x :: l => by
    have := wrCells_len l
    have e : wrCells (x :: l) = [.int .i64 x.1, .int .i64 x.2.1, .int .i64 x.2.2.1, .int .i64 x.2.2.2] ++ wrCells l := by simp [wrCells]
    rw [e, List.length_append, this]
    simp
    omega
theorem wrCells_one (l : List W4) : ∀ u ∈ wrCells l, u.oneCell' = true := by
  intro u hu
  simp only [wrCells, List.mem_flatMap] at hu
  obtain ⟨o, _, hu⟩ := hu
  simp at hu
  rcases hu with rfl | rfl | rfl | rfl <;> rfl
theorem wrCells_at : ∀ (l : List W4) (i : Nat) (o : W4), l[i]? = some o → (wrCells l)[i * 4]? = some (.int .i64 o.1) ∧ (wrCells l)[i * 4 + 1]? = some (.int .i64 o.2.1) ∧ (wrCells l)[i * 4 + 2]? = some (.int .i64 o.2.2.1) ∧ (wrCells l)[i * 4 + 3]? = some (.int .i64 o.2.2.2)
  | [], i, o, h => by simp at h
  | x :: l, 0, o, h => by
    simp at h
    subst h
    simp [wrCells]
  | x :: l, i + 1, o, h => by
    have := wrCells_at l i o (by simpa using h)
    have e : wrCells (x :: l) = [.int .i64 x.1, .int .i64 x.2.1, .int .i64 x.2.2.1, .int .i64 x.2.2.2] ++ wrCells l := by simp [wrCells]
    rw [e]
    refine ⟨?_, ?_, ?_, ?_⟩
    · rw [List.getElem?_append_right (by simp; omega)]
      simpa [show (i + 1) * 4 - 4 = i * 4 by omega] using this.1
    · rw [List.getElem?_append_right (by simp; omega)]
      simpa [show (i + 1) * 4 + 1 - 4 = i * 4 + 1 by omega] using this.2.1
    · rw [List.getElem?_append_right (by simp; omega)]
      simpa [show (i + 1) * 4 + 2 - 4 = i * 4 + 2 by omega] using this.2.2.1
    · rw [List.getElem?_append_right (by simp; omega)]
      simpa [show (i + 1) * 4 + 3 - 4 = i * 4 + 3 by omega] using this.2.2.2
theorem wrs_of_own {w : World} {base : Nat} {v : Value} {l : List W4} (h : w.ownsRow base 47 4 v l.length (wrCells l)) : Wrs w v l := by
  have hl := h.lt
  have hcs := @World.ownsRow.cells _ _ _ _ _ _ _ h
  rcases h.2 with ⟨rfl, h0⟩ | ⟨g, cap, cur, rfl, _, _, hcap, _⟩
  · exact Or.inl ⟨List.eq_nil_of_length_eq_zero h0, _, _, rfl⟩
  · have hat : ∀ j u, (wrCells l)[j]? = some u → w.cell? ⟨g, j, none⟩ = some u := fun j u hu => by
      have := hcs rfl j u hu
      unfold Addr.add at this
      split at this
      · rename_i h0; subst h0; exact this
      · simpa using this
    refine Or.inr ⟨g, 0, cap, rfl, hcap, (hl g rfl).2, fun i o ho => ?_⟩
    obtain ⟨h1, h2, h3, h4⟩ := wrCells_at l i o ho
    exact ⟨by simpa using hat _ _ h1, by simpa using hat _ _ h2, by simpa using hat _ _ h3, by simpa using hat _ _ h4⟩
theorem infoWr : (Tryz.prog.info? 47).map (fun i => (i.zero, i.size, i.bytes)) = some (some (.agg #[.int .i64 0, .int .i64 0, .int .i64 0, .int .i64 0]), 4, 32) := by kernel_rfl
theorem wr_new {w : World} {k : Nat} (hk : k = w.heap.size) (x y z u : Value) (t : TypeId) : ∀ j q, [x, y, z, u][j]? = some q → (w.alloc (.cells #[x, y, z, u] t)).cell? ((⟨k, 0, none⟩ : Addr).add j) = some q := by
  subst hk
  intro j q hj
  match j, hj with
  | 0, hj => simp at hj; subst hj; simp [Addr.add]
  | 1, hj => simp at hj; subst hj; simp [Addr.add]
  | 2, hj => simp at hj; subst hj; simp [Addr.add]
  | 3, hj => simp at hj; subst hj; simp [Addr.add]
theorem four_one (a b c d : Int) : ∀ u ∈ [Value.int .i64 a, .int .i64 b, .int .i64 c, .int .i64 d], u.oneCell' = true := by
  intro u hu
  simp at hu
  rcases hu with rfl | rfl | rfl | rfl <;> rfl
theorem own4_form {w : World} {base : Nat} {e : TypeId} {size : Nat} {v : Value} {n : Nat} {xs : List Value} (R : w.ownsRow base e size v n xs) : ∃ g cap, v = .slice g n cap := by
  rcases R.2 with ⟨h, h0⟩ | ⟨g, cap, cur, h, _⟩
  · exact ⟨_, _, by rw [h0]; exact h⟩
  · exact ⟨_, _, h⟩
end Go.Proofs.YtamnfadngbbaeacGreatDoor
namespace Go.Proofs.YtamnfadngbbaeacGreatDoor
open Go.RowKit

theorem infoOpE : (Tryz.prog.info? 73).map (fun i => (i.zero, i.size, i.bytes)) = some (some (.agg #[.int .i64 0, .int .i64 0, .int .i64 0]), 3, 24) := by kernel_rfl
theorem ops_own {w : World} {base : Nat} {v : Value} {l : List O3} (h : w.ownsRow base 73 3 v l.length (cells3 l)) : Ops w v l := by
  have hl := h.lt
  have hcs := @World.ownsRow.cells _ _ _ _ _ _ _ h
  rcases h.2 with ⟨rfl, h0⟩ | ⟨g, cap, cur, rfl, _, _, hcap, _⟩
  · exact Or.inl ⟨List.eq_nil_of_length_eq_zero h0, _, _, rfl⟩
  · have hat : ∀ j u, (cells3 l)[j]? = some u → w.cell? ⟨g, j, none⟩ = some u := fun j u hu => by
      have := hcs rfl j u hu
      unfold Addr.add at this
      split at this
      · rename_i h0; subst h0; exact this
      · simpa using this
    refine Or.inr ⟨g, 0, cap, rfl, (hl g rfl).2, fun i o ho => ?_⟩
    obtain ⟨h1, h2, h3⟩ := cells3_at l i o ho
    exact ⟨by simpa using hat _ _ h1, by simpa using hat _ _ h2, by simpa using hat _ _ h3⟩
/-- A plan that is being read: the box at 'pb', the rows from 'base' on; 'us': the rows of ops. -/
structure RP (w : World) (base pb : Nat) (p : PD) (vc vs vw : Value) (us : List Value) : Prop where
  c0 : w.cell? ⟨pb, 0, none⟩ = some vc
  c1 : w.cell? ⟨pb, 1, none⟩ = some (.int .i64 p.ticks)
  c2 : w.cell? ⟨pb, 2, none⟩ = some vs
  c3 : w.cell? ⟨pb, 3, none⟩ = some vw
  f0 : w.frozen? ⟨pb, 0, none⟩ = false
  f2 : w.frozen? ⟨pb, 2, none⟩ = false
  f3 : w.frozen? ⟨pb, 3, none⟩ = false
  lt : pb < base
  le : base ≤ w.heap.size
  spans : w.ownsRow base 45 3 vs p.spans.length (spCells p.spans)
  wires : w.ownsRow base 47 4 vw p.wires.length (wrCells p.wires)
  code : w.ownsRow base 49 1 vc p.code.length us
  rows : ∀ (i : Nat) u c, us[i]? = some u → p.code[i]? = some c → w.ownsRow base 73 3 u c.length (cells3 c)
  apart : ∀ (i j : Nat) u v, i < j → us[i]? = some u → us[j]? = some v → u.ownBlock = none ∨ u.ownBlock ≠ v.ownBlock
theorem RP.below {w w' : World} {base pb : Nat} {p : PD} {vc vs vw : Value} {us : List Value} (h : RP w base pb p vc vs vw us) (hb : Below w.heap.size w w') : RP w' base pb p vc vs vw us := by
  have hpb : pb < w.heap.size := Nat.lt_of_lt_of_le h.lt h.le
  have hc := fun o => hb.cell (p := ⟨pb, o, none⟩) hpb
  have hf := fun o => hb.frozen (p := ⟨pb, o, none⟩) hpb
  exact ⟨(hc 0).trans h.c0, (hc 1).trans h.c1, (hc 2).trans h.c2, (hc 3).trans h.c3, (hf 0).trans h.f0, (hf 2).trans h.f2, (hf 3).trans h.f3, h.lt, Nat.le_trans h.le hb.size, own_below h.spans hb (Nat.le_refl _), own_below h.wires hb (Nat.le_refl _), own_below h.code hb (Nat.le_refl _), fun i u c hu hc => own_below (h.rows i u c hu hc) hb (Nat.le_refl _), h.apart⟩
/-- The box is as it was where a row has grown. -/
theorem RP.box {w wa : World} {base pb : Nat} {p : PD} {vc vs vw : Value} {us : List Value} (h : RP w base pb p vc vs vw us) {row : Option Nat} (hg : w.grownBy wa row) (hr : ∀ k, row = some k → base ≤ k) : (∀ o, wa.cell? ⟨pb, o, none⟩ = w.cell? ⟨pb, o, none⟩) ∧ (∀ o, wa.frozen? ⟨pb, o, none⟩ = w.frozen? ⟨pb, o, none⟩) ∧ base ≤ wa.heap.size :=
  have hpb : pb < w.heap.size := Nat.lt_of_lt_of_le h.lt h.le
  have hne : some pb ≠ row := fun e => by have := hr pb e.symm; have := h.lt; omega
  ⟨fun o => World.cell?_of_block (a := ⟨pb, o, none⟩) (hg.block pb hpb hne), fun o => World.frozen?_of_block (a := ⟨pb, o, none⟩) (hg.block pb hpb hne), Nat.le_trans h.le hg.size⟩
theorem RP.span {w wa : World} {base pb : Nat} {p : PD} {vc vs vw v' : Value} {us : List Value} {s : S3} (h : RP w base pb p vc vs vw us) (hg : w.grownBy wa vs.ownBlock) (own : wa.ownsRow base 45 3 v' (p.spans.length + 1) (spCells p.spans ++ [.int .i64 s.1, .int .i64 s.2.1, .int .i64 s.2.2])) :
    RP (wa.setCell ⟨pb, 2, none⟩ v') base pb ⟨p.code, p.ticks, p.spans ++ [s], p.wires⟩ vc v' vw us := by
  obtain ⟨hc, hf, hle⟩ := h.box hg (fun k hk => (h.spans.lt k hk).1)
  have g0 := (hc 0).trans h.c0
  have g1 := (hc 1).trans h.c1
  have g2 := (hc 2).trans h.c2
  have g3 := (hc 3).trans h.c3
  refine ⟨by simpa [go_sem] using g0, by simpa [go_sem] using g1, by simp [go_sem, g2], by simpa [go_sem] using g3, by simpa using (hf 0).trans h.f0, by simpa using (hf 2).trans h.f2, by simpa using (hf 3).trans h.f3, h.lt, by simpa using hle, ?_, ?_, ?_, fun i u c hu hcc => ?_, h.apart⟩
  · simp only [spCells_snoc, List.length_append, List.length_cons, List.length_nil]
    exact ownsRow_setCell_below own (a := ⟨pb, 2, none⟩) h.lt v'
  · exact ownsRow_setCell_below (h.wires.kept hg (own_apart (by decide) h.wires h.spans)) (a := ⟨pb, 2, none⟩) h.lt v'
  · exact ownsRow_setCell_below (h.code.kept hg (own_apart (by decide) h.code h.spans)) (a := ⟨pb, 2, none⟩) h.lt v'
  · exact ownsRow_setCell_below ((h.rows i u c hu hcc).kept hg (own_apart (by decide) (h.rows i u c hu hcc) h.spans)) (a := ⟨pb, 2, none⟩) h.lt v'
theorem RP.wire {w wa : World} {base pb : Nat} {p : PD} {vc vs vw v' : Value} {us : List Value} {s : W4} (h : RP w base pb p vc vs vw us) (hg : w.grownBy wa vw.ownBlock) (own : wa.ownsRow base 47 4 v' (p.wires.length + 1) (wrCells p.wires ++ [.int .i64 s.1, .int .i64 s.2.1, .int .i64 s.2.2.1, .int .i64 s.2.2.2])) :
    RP (wa.setCell ⟨pb, 3, none⟩ v') base pb ⟨p.code, p.ticks, p.spans, p.wires ++ [s]⟩ vc vs v' us := by
  obtain ⟨hc, hf, hle⟩ := h.box hg (fun k hk => (h.wires.lt k hk).1)
  have g0 := (hc 0).trans h.c0
  have g1 := (hc 1).trans h.c1
  have g2 := (hc 2).trans h.c2
  have g3 := (hc 3).trans h.c3
  refine ⟨by simpa [go_sem] using g0, by simpa [go_sem] using g1, by simpa [go_sem] using g2, by simp [go_sem, g3], by simpa using (hf 0).trans h.f0, by simpa using (hf 2).trans h.f2, by simpa using (hf 3).trans h.f3, h.lt, by simpa using hle, ?_, ?_, ?_, fun i u c hu hcc => ?_, h.apart⟩
  · exact ownsRow_setCell_below (h.spans.kept hg (own_apart (by decide) h.spans h.wires)) (a := ⟨pb, 3, none⟩) h.lt v'
  · simp only [wrCells_snoc, List.length_append, List.length_cons, List.length_nil]
    exact ownsRow_setCell_below own (a := ⟨pb, 3, none⟩) h.lt v'
  · exact ownsRow_setCell_below (h.code.kept hg (own_apart (by decide) h.code h.wires)) (a := ⟨pb, 3, none⟩) h.lt v'
  · exact ownsRow_setCell_below ((h.rows i u c hu hcc).kept hg (own_apart (by decide) (h.rows i u c hu hcc) h.wires)) (a := ⟨pb, 3, none⟩) h.lt v'
theorem RP.ulen {w : World} {base pb : Nat} {p : PD} {vc vs vw : Value} {us : List Value} (h : RP w base pb p vc vs vw us) : us.length = p.code.length := by
  have := h.code.1
  omega
theorem RP.room {w wa : World} {base pb : Nat} {p : PD} {vc vs vw v' : Value} {us : List Value} (h : RP w base pb p vc vs vw us) (hg : w.grownBy wa vc.ownBlock) (own : wa.ownsRow base 49 1 v' (p.code.length + 1) (us ++ [.slice none 0 0])) :
    RP (wa.setCell ⟨pb, 0, none⟩ v') base pb ⟨p.code ++ [[]], p.ticks, p.spans, p.wires⟩ v' vs vw (us ++ [.slice none 0 0]) := by
  obtain ⟨hc, hf, hle⟩ := h.box hg (fun k hk => (h.code.lt k hk).1)
  have g0 := (hc 0).trans h.c0
  have g1 := (hc 1).trans h.c1
  have g2 := (hc 2).trans h.c2
  have g3 := (hc 3).trans h.c3
  have hul := h.ulen
  refine ⟨by simp [go_sem, g0], by simpa [go_sem] using g1, by simpa [go_sem] using g2, by simpa [go_sem] using g3, by simpa using (hf 0).trans h.f0, by simpa using (hf 2).trans h.f2, by simpa using (hf 3).trans h.f3, h.lt, by simpa using hle, ?_, ?_, ?_, fun i u c hu hcc => ?_, fun i j u v hij hu hv => ?_⟩
  · exact ownsRow_setCell_below (h.spans.kept hg (own_apart (by decide) h.spans h.code)) (a := ⟨pb, 0, none⟩) h.lt v'
  · exact ownsRow_setCell_below (h.wires.kept hg (own_apart (by decide) h.wires h.code)) (a := ⟨pb, 0, none⟩) h.lt v'
  · simp only [List.length_append, List.length_cons, List.length_nil]
    exact ownsRow_setCell_below own (a := ⟨pb, 0, none⟩) h.lt v'
  · by_cases hi : i < us.length
    · rw [List.getElem?_append_left hi] at hu
      simp only at hcc
      rw [List.getElem?_append_left (by omega)] at hcc
      exact ownsRow_setCell_below ((h.rows i u c hu hcc).kept hg (own_apart (by decide) (h.rows i u c hu hcc) h.code)) (a := ⟨pb, 0, none⟩) h.lt v'
    · have hi2 : i = us.length := by
        have := (List.getElem?_eq_some_iff.1 hu).1
        simp at this
        omega
      subst hi2
      simp at hu
      simp [hul] at hcc
      subst hu
      subst hcc
      exact World.ownsRow_nil _ _ _ _
  · by_cases hj : j < us.length
    · rw [List.getElem?_append_left hj] at hv
      rw [List.getElem?_append_left (by omega)] at hu
      exact h.apart i j u v hij hu hv
    · have hj2 : j = us.length := by
        have := (List.getElem?_eq_some_iff.1 hv).1
        simp at this
        omega
      subst hj2
      simp at hv
      subst hv
      cases hb : u.ownBlock with
      | none => exact Or.inl rfl
      | some k => exact Or.inr (by simp [Value.ownBlock])
theorem RP.op {w wa : World} {base pb g cap : Nat} {p : PD} {vs vw u u' : Value} {us : List Value} {c : List O3} {o : O3} {L : Nat} (h : RP w base pb p (.slice (some ⟨g, 0, none⟩) p.code.length cap) vs vw us) (hL : L + 1 = p.code.length) (hu : us[L]? = some u) (hcL : p.code[L]? = some c)
    (hg : w.grownBy wa u.ownBlock) (own : wa.ownsRow base 73 3 u' (c.length + 1) (cells3 c ++ [.int .i64 o.1, .int .i64 o.2.1, .int .i64 o.2.2])) (hat : ∀ k, u'.ownBlock = some k → u.ownBlock = some k ∨ w.heap.size ≤ k) :
    RP (wa.setCell ⟨g, L, none⟩ u') base pb ⟨p.code.set L (c ++ [o]), p.ticks, p.spans, p.wires⟩ (.slice (some ⟨g, 0, none⟩) p.code.length cap) vs vw (us.set L u') := by
  have hrow := h.rows L u c hu hcL
  obtain ⟨hc, hf, hle⟩ := h.box hg (fun k hk => (hrow.lt k hk).1)
  have g0 := (hc 0).trans h.c0
  have g1 := (hc 1).trans h.c1
  have g2 := (hc 2).trans h.c2
  have g3 := (hc 3).trans h.c3
  have hul := h.ulen
  have hgb : base ≤ g := (h.code.lt g rfl).1
  have hne : pb ≠ g := by have := h.lt; omega
  have hcell : ∀ o', (wa.setCell ⟨g, L, none⟩ u').cell? ⟨pb, o', none⟩ = wa.cell? ⟨pb, o', none⟩ := fun o' => World.cell?_of_block (w := wa) (a := ⟨pb, o', none⟩) (Below.heap_setCell _ _ _ _ hne)
  have code2 := h.code.kept hg (own_apart (by decide) h.code hrow)
  have other : ∀ {e : TypeId} {sz : Nat} {x : Value} {m : Nat} {xs : List Value}, e ≠ 49 → wa.ownsRow base e sz x m xs → (wa.setCell ⟨g, L, none⟩ u').ownsRow base e sz x m xs := fun {e sz x m xs} he hx => ownsRow_setCell_other hx (fun hk => by
    rcases own_apart he hx code2 with h1 | h1
    · rw [h1] at hk; cases hk
    · exact h1 hk) u'
  refine ⟨(hcell 0).trans g0, (hcell 1).trans g1, (hcell 2).trans g2, (hcell 3).trans g3, by simpa using (hf 0).trans h.f0, by simpa using (hf 2).trans h.f2, by simpa using (hf 3).trans h.f3, h.lt, by simpa using hle, ?_, ?_, ?_, fun i x d hx hd => ?_, fun i j x y hij hx hy => ?_⟩
  · exact other (by decide) (h.spans.kept hg (own_apart (by decide) h.spans hrow))
  · exact other (by decide) (h.wires.kept hg (own_apart (by decide) h.wires hrow))
  · simp only [List.length_set]
    exact (code2.stored L u').1
  · by_cases hi : i = L
    · subst hi
      simp only at hd
      rw [List.getElem?_set_self (by omega)] at hx hd
      obtain rfl := Option.some.inj hx
      obtain rfl := Option.some.inj hd
      rw [cells3_snoc, List.length_append]
      exact other (by decide) own
    · simp only at hd
      rw [List.getElem?_set_ne (by omega)] at hx hd
      have hr := h.rows i x d hx hd
      refine other (by decide) (hr.kept hg ?_)
      rcases Nat.lt_or_ge i L with hl | hl
      · exact h.apart i L x u hl hx hu
      · have := (List.getElem?_eq_some_iff.1 hd).1
        omega
  · have hjl : j < us.length := by
      have := (List.getElem?_eq_some_iff.1 hy).1
      simpa using this
    by_cases hj : j = L
    · subst hj
      rw [List.getElem?_set_self (by omega)] at hy
      rw [List.getElem?_set_ne (by omega)] at hx
      obtain rfl := Option.some.inj hy
      have hxl := (h.rows i x _ hx (List.getElem?_eq_getElem (show i < p.code.length by omega))).lt
      cases hxb : x.ownBlock with
      | none => exact Or.inl rfl
      | some k =>
        refine Or.inr fun e => ?_
        have hk := hxl k hxb
        rcases hat k e.symm with h1 | h1
        · rcases h.apart i j x u hij hx hu with h2 | h2
          · rw [hxb] at h2; cases h2
          · exact h2 (hxb.trans h1.symm)
        · omega
    · rw [List.getElem?_set_ne (by omega)] at hy
      by_cases hi : i = L
      · omega
      · rw [List.getElem?_set_ne (by omega)] at hx
        exact h.apart i j x y hij hx hy
/-- A cell ahead of the box is written. -/
theorem RP.other {w : World} {base pb : Nat} {p : PD} {vc vs vw : Value} {us : List Value} (h : RP w base pb p vc vs vw us) {a : Addr} (ha : a.block < pb) (u : Value) : RP (w.setCell a u) base pb p vc vs vw us := by
  have hc : ∀ o, (w.setCell a u).cell? ⟨pb, o, none⟩ = w.cell? ⟨pb, o, none⟩ := fun o => World.cell?_of_block (w := w) (a := ⟨pb, o, none⟩) (Below.heap_setCell _ _ _ _ (show pb ≠ a.block by omega))
  have hlt : a.block < base := Nat.lt_trans ha h.lt
  exact ⟨(hc 0).trans h.c0, (hc 1).trans h.c1, (hc 2).trans h.c2, (hc 3).trans h.c3, by simpa using h.f0, by simpa using h.f2, by simpa using h.f3, h.lt, by simpa using h.le, ownsRow_setCell_below h.spans hlt u, ownsRow_setCell_below h.wires hlt u, ownsRow_setCell_below h.code hlt u, fun i v c hv hcc => ownsRow_setCell_below (h.rows i v c hv hcc) hlt u, h.apart⟩
/-- What is read is a plan in the world. -/
theorem RP.pln {w : World} {base pb : Nat} {p : PD} {vc vs vw : Value} {us : List Value} (h : RP w base pb p vc vs vw us) : Pln w vc vs vw p := by
  refine ⟨?_, sps_of_own h.spans, wrs_of_own h.wires⟩
  have hul := h.ulen
  rcases h.code.2 with ⟨h1, h0⟩ | ⟨g, cap, cur, h1, _, _, hcap, _⟩
  · exact Or.inl ⟨List.eq_nil_of_length_eq_zero h0, _, _, h1⟩
  · have hcode := h.code
    rw [h1] at hcode
    refine Or.inr ⟨g, 0, cap, h1, hcap, (hcode.lt g rfl).2, fun i c hc => ?_⟩
    have hi := (List.getElem?_eq_some_iff.1 hc).1
    have hu : us[i]? = some us[i] := List.getElem?_eq_getElem (by omega)
    refine ⟨us[i], ?_, ops_own (h.rows i _ c hu hc)⟩
    rw [Nat.zero_add, hcode.cellAt i (by omega)]
    exact hu
theorem onto_set {acc : List (List O3)} {L : Nat} {c : List O3} (hL : L + 1 = acc.length) (hc : acc[L]? = some c) (o : O3) : onto acc o = some (acc.set L (c ++ [o])) := by
  rcases List.eq_nil_or_concat acc with rfl | ⟨l, x, rfl⟩
  · simp at hL
  · rw [List.concat_eq_append] at *
    have hl : L = l.length := by simp at hL; omega
    subst hl
    simp at hc
    subst hc
    simp [onto]
theorem onto_nil (o : O3) : onto [] o = none := rfl
end Go.Proofs.YtamnfadngbbaeacGreatDoor
namespace Go.Proofs.YtamnfadngbbaeacGreatDoor
open Go.RowKit

/-- The ports of a room, one kind of them, as they are gone over. -/
theorem ports_bad {at' : W4 → Int} {ws : List W4} {i : Nat} {zs : List Int} {k : Nat} {z : Int} (hz : zs[k]? = some z) (h : portB at' ws i z = true) : zs.any (portB at' ws i) = true := any_hit hz h
theorem wires_mem {what : Int} {c : List O3} {z : Int} (h : z ∈ wiresB what c) : 0 ≤ z ∧ z < 12 := by
  unfold wiresB pickN at h
  simp only [List.mem_map, List.mem_filter, List.mem_range'_1] at h
  obtain ⟨a, ⟨⟨_, h2⟩, _⟩, rfl⟩ := h
  simp
  omega
theorem port_out {ws : List W4} {i : Nat} {c : List O3} (h : (wiresB 8 c).any (portB (·.1) ws i) = true) : portsB ws i c = true := by unfold portsB; rw [h]; rfl
theorem port_in {ws : List W4} {i : Nat} {c : List O3} (h : (wiresB 9 c).any (portB (·.2.1) ws i) = true) : portsB ws i c = true := by unfold portsB; rw [h, Bool.or_true]
theorem ports_next {ws : List W4} {l : List (List O3)} {k : Nat} {c : List O3} (h : ∀ (j : Nat) y, j < k → l[j]? = some y → portsB ws j y = false) (hx : l[k]? = some c) (hf : portsB ws k c = false) : ∀ (j : Nat) y, j < k + 1 → l[j]? = some y → portsB ws j y = false := fun j y hj hy => by
  by_cases hjk : j < k
  · exact h j y hjk hy
  · obtain rfl : j = k := by omega
    rw [hx] at hy
    obtain rfl := Option.some.inj hy
    exact hf
theorem stp_of_ints {w : World} {v : Value} {zs : List Int} (h : Ints w v zs) : Stp w v zs := by
  rcases h with ⟨rfl, rfl⟩ | ⟨a, cap, rfl, ha, hc⟩
  · exact Or.inl ⟨rfl, _, _, rfl⟩
  · cases zs with
    | nil => exact Or.inl ⟨rfl, _, _, rfl⟩
    | cons z zs =>
      have h0 := hc 0 z rfl
      have ea : a = ⟨a.block, a.off, none⟩ := by
        obtain ⟨b, o, s⟩ := a
        cases s with
        | none => rfl
        | some s =>
          exfalso
          unfold Addr.add at h0
          simp [World.cell?] at h0
          split at h0 <;> simp at h0
      refine Or.inr ⟨a.block, a.off, cap, by rw [← ea], ha, fun i x hx => ?_⟩
      have := hc i x hx
      rw [ea, Addr.add_lit] at this
      exact this
end Go.Proofs.YtamnfadngbbaeacGreatDoor

/-
  A plan in the world.
-/
import Derived.Test.YtamnfadngbbaeadDoorPlanMath
import Derived.Test.YtamnfadngbbaeadDoorCodeL
import Derived.Test.YtamnfadngbbaeadDoorFBase
import Derived.Test.YtamnfadngbbaeadDoorFlowBase
namespace Go.Proofs.YtamnfadngbbaeadDoor
open Go.RowKit

/-- Codes that can be read. -/
def Cds (w : World) (v : Value) (cs : List (List O3)) : Prop :=
  (cs = [] ∧ ∃ ao cap, v = .slice ao 0 cap) ∨ ∃ b off cap, v = .slice (some ⟨b, off, none⟩) cs.length cap ∧ cs.length ≤ cap ∧ b < w.heap.size ∧ ∀ (i : Nat) c, cs[i]? = some c → ∃ u, w.cell? ⟨b, off + i, none⟩ = some u ∧ Ops w u c
theorem Cds.all {w w' : World} {v : Value} {cs : List (List O3)} (h : Cds w v cs) (hb : Below w.heap.size w w') : Cds w' v cs := by
  rcases h with h | ⟨b, off, cap, rfl, hcap, hlt, hc⟩
  · exact Or.inl h
  · refine Or.inr ⟨b, off, cap, rfl, hcap, Nat.lt_of_lt_of_le hlt hb.size, fun i c hi => ?_⟩
    obtain ⟨u, h1, h2⟩ := hc i c hi
    exact ⟨u, (hb.cell (p := ⟨b, _, none⟩) hlt).trans h1, h2.all hb⟩
theorem Cds.form {w : World} {v : Value} {cs : List (List O3)} (h : Cds w v cs) : ∃ ao cap, v = .slice ao cs.length cap := by
  rcases h with ⟨rfl, ao, cap, rfl⟩ | ⟨b, off, cap, rfl, _⟩
  · exact ⟨ao, cap, rfl⟩
  · exact ⟨_, cap, rfl⟩
theorem Cds.at {w : World} {ao : Option Addr} {cap : Nat} {cs : List (List O3)} (h : Cds w (.slice ao cs.length cap) cs) {i : Nat} (hi : i < cs.length) : ∃ b off u n g c, ao = some ⟨b, off, none⟩ ∧ b < w.heap.size ∧ cs[i]? = some c ∧ w.cell? ⟨b, off + i, none⟩ = some (.slice u n g) ∧ n = c.length ∧ Ops w (.slice u n g) c := by
  rcases h with ⟨rfl, _⟩ | ⟨b, off, cap', e, _, hlt, hc⟩
  · simp at hi
  · injection e with e1
    obtain ⟨u, h1, h2⟩ := hc i _ (List.getElem?_eq_getElem hi)
    obtain ⟨ua, uc, rfl⟩ := h2.form
    exact ⟨b, off, ua, _, uc, _, e1, hlt, List.getElem?_eq_getElem hi, h1, rfl, h2⟩
theorem Sps.at {w : World} {ao : Option Addr} {cap : Nat} {l : List S3} (h : Sps w (.slice ao l.length cap) l) {i : Nat} (hi : i < l.length) : ∃ b off f t r, ao = some ⟨b, off, none⟩ ∧ b < w.heap.size ∧ l[i]? = some (f, t, r) ∧ w.cell? ⟨b, off + i * 3, none⟩ = some (.int .i64 f) ∧ w.cell? ⟨b, off + i * 3 + 1, none⟩ = some (.int .i64 t) ∧ w.cell? ⟨b, off + i * 3 + 2, none⟩ = some (.int .i64 r) := by
  rcases h with ⟨rfl, _⟩ | ⟨b, off, cap', e, _, hlt, hc⟩
  · simp at hi
  · injection e with e1
    obtain ⟨⟨f, t, r⟩, hx'⟩ : ∃ x : S3, l[i]? = some x := ⟨l[i], List.getElem?_eq_getElem hi⟩
    obtain ⟨h0, h1, h2⟩ := hc i _ hx'
    exact ⟨b, off, f, t, r, e1, hlt, hx', h0, h1, h2⟩
/-- A plan's parts can be read. -/
structure Pln (w : World) (vc vs vw : Value) (p : PD) : Prop where
  code : Cds w vc p.code
  spans : Sps w vs p.spans
  wires : Wrs w vw p.wires
theorem Pln.all {w w' : World} {vc vs vw : Value} {p : PD} (h : Pln w vc vs vw p) (hb : Below w.heap.size w w') : Pln w' vc vs vw p := ⟨h.code.all hb, h.spans.all hb, h.wires.all hb⟩
/-- A plan as a value. -/
def plV (vc : Value) (n : Int) (vs vw : Value) : Value := .agg #[vc, .int .i64 n, vs, vw]
/-- Behind the box of a plan. -/
def Bx (w W : World) (vc : Value) (n : Int) (vs vw : Value) : Prop := Below (w.heap.size + 1) (w.alloc (.cells #[vc, .int .i64 n, vs, vw] 31)) W
theorem Bx.first (w : World) (vc : Value) (n : Int) (vs vw : Value) : Bx w (w.alloc (.cells #[vc, .int .i64 n, vs, vw] 31)) vc n vs vw := Below.refl _ _
theorem Bx.size {w W : World} {vc vs vw : Value} {n : Int} (h : Bx w W vc n vs vw) : w.heap.size + 1 ≤ W.heap.size := by
  have := Below.size h
  simpa using this
theorem Bx.step {w W W' : World} {vc vs vw : Value} {n : Int} (h : Bx w W vc n vs vw) (hb : Below W.heap.size W W') : Bx w W' vc n vs vw := Below.trans h (hb.mono h.size)
theorem Bx.dN {w W : World} {vc vs vw : Value} {n : Int} (h : Bx w W vc n vs vw) (k : Nat) : Bx w (W.drewN k) vc n vs vw := below_dN h k
theorem Bx.below {w W : World} {vc vs vw : Value} {n : Int} (h : Bx w W vc n vs vw) : Below w.heap.size w W := ((Below.refl _ _).alloc (Nat.le_refl _) _).trans (Below.mono h (Nat.le_succ _))
theorem Bx.c0 {w W : World} {vc vs vw : Value} {n : Int} (h : Bx w W vc n vs vw) : W.cell? ⟨w.heap.size, 0, none⟩ = some vc := (Below.cell h (p := ⟨w.heap.size, 0, none⟩) (by simp)).trans (by simp)
theorem Bx.c1 {w W : World} {vc vs vw : Value} {n : Int} (h : Bx w W vc n vs vw) : W.cell? ⟨w.heap.size, 1, none⟩ = some (.int .i64 n) := (Below.cell h (p := ⟨w.heap.size, 1, none⟩) (by simp)).trans (by simp)
theorem Bx.c2 {w W : World} {vc vs vw : Value} {n : Int} (h : Bx w W vc n vs vw) : W.cell? ⟨w.heap.size, 2, none⟩ = some vs := (Below.cell h (p := ⟨w.heap.size, 2, none⟩) (by simp)).trans (by simp)
theorem Bx.c3 {w W : World} {vc vs vw : Value} {n : Int} (h : Bx w W vc n vs vw) : W.cell? ⟨w.heap.size, 3, none⟩ = some vw := (Below.cell h (p := ⟨w.heap.size, 3, none⟩) (by simp)).trans (by simp)
theorem any_false {α : Type} {f : α → Bool} {l : List α} (h : ∀ (j : Nat) y, j < l.length → l[j]? = some y → f y = false) : l.any f = false := by
  rw [List.any_eq_false]
  intro x hx
  obtain ⟨j, hj⟩ := List.mem_iff_getElem?.1 hx
  rw [h j x (List.getElem?_eq_some_iff.1 hj).1 hj]
  simp
theorem any_hit {α : Type} {f : α → Bool} {l : List α} {k : Nat} {x : α} (h : l[k]? = some x) (hf : f x = true) : l.any f = true := List.any_eq_true.2 ⟨x, List.mem_of_getElem? h, hf⟩
/-- One more that is not. -/
theorem upto_next {α : Type} {f : α → Bool} {l : List α} {k : Nat} {x : α} (h : ∀ (j : Nat) y, j < k → l[j]? = some y → f y = false) (hx : l[k]? = some x) (hf : f x = false) : ∀ (j : Nat) y, j < k + 1 → l[j]? = some y → f y = false := fun j y hj hy => by
  by_cases hjk : j < k
  · exact h j y hjk hy
  · obtain rfl : j = k := by omega
    rw [hx] at hy
    obtain rfl := Option.some.inj hy
    exact hf
/-- A plan whose parts all lie from a block on: it stays where only what lies before it is written. -/
def PlnF (B : Nat) (w : World) (vc vs vw : Value) (p : PD) : Prop := ∀ w', w.heap.size ≤ w'.heap.size → (∀ b o, B ≤ b → w'.cell? ⟨b, o, none⟩ = w.cell? ⟨b, o, none⟩) → Pln w' vc vs vw p
theorem PlnF.here {B : Nat} {w : World} {vc vs vw : Value} {p : PD} (h : PlnF B w vc vs vw p) : Pln w vc vs vw p := h w (Nat.le_refl _) (fun _ _ _ => rfl)
end Go.Proofs.YtamnfadngbbaeadDoor

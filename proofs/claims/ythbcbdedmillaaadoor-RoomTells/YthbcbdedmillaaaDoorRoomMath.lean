/-
  Plain mathematics for package room, of no program: a state; which is right; one step.
-/
import Derived.Test.YthbcbdedmillaaaDoorMath
namespace Go.Proofs.YthbcbdedmillaaaDoor

/-- A state of a room: where it goes on, its cells, whether it has failed. -/
structure St where
  p : Int
  c : Nat → Int
  f : Bool
/-- One cell changed. -/
def upd (c : Nat → Int) (a : Nat) (v : Int) : Nat → Int := fun i => if i = a then v else c i
theorem upd_same (c : Nat → Int) (a : Nat) (v : Int) : upd c a v a = v := by simp [upd]
theorem upd_other (c : Nat → Int) {a i : Nat} (v : Int) (h : i ≠ a) : upd c a v i = c i := by simp [upd, h]
/-- Whether all cells are numbers of a room. -/
def cellsOk (c : Nat → Int) : Bool := decide (0 ≤ c 0 ∧ c 0 ≤ 999 ∧ 0 ≤ c 1 ∧ c 1 ≤ 999 ∧ 0 ≤ c 2 ∧ c 2 ≤ 999 ∧ 0 ≤ c 3 ∧ c 3 ≤ 999 ∧ 0 ≤ c 4 ∧ c 4 ≤ 999 ∧ 0 ≤ c 5 ∧ c 5 ≤ 999)
theorem six {P : Nat → Prop} : (∀ i, i < 6 → P i) ↔ (P 0 ∧ P 1 ∧ P 2 ∧ P 3 ∧ P 4 ∧ P 5) := by
  refine ⟨fun h => ⟨h 0 (by omega), h 1 (by omega), h 2 (by omega), h 3 (by omega), h 4 (by omega), h 5 (by omega)⟩, fun ⟨h0, h1, h2, h3, h4, h5⟩ i hi => ?_⟩
  match i, hi with
  | 0, _ => exact h0
  | 1, _ => exact h1
  | 2, _ => exact h2
  | 3, _ => exact h3
  | 4, _ => exact h4
  | 5, _ => exact h5
  | i + 6, h => omega
theorem cellsOk_iff {c : Nat → Int} : cellsOk c = true ↔ ∀ i, i < 6 → 0 ≤ c i ∧ c i ≤ 999 := by
  rw [six]
  simp [cellsOk, and_assoc]
theorem cellsOk_no {c : Nat → Int} (h : ¬ ∀ i, i < 6 → 0 ≤ c i ∧ c i ≤ 999) : cellsOk c = false := by
  rw [← cellsOk_iff] at h
  simpa using h
/-- Whether a state is right in code of so many ops. -/
def stOk (s : St) (n : Nat) : Bool := decide (0 ≤ s.p ∧ s.p < n) && cellsOk s.c
theorem stOk_iff {s : St} {n : Nat} : stOk s n = true ↔ (0 ≤ s.p ∧ s.p < n ∧ ∀ i, i < 6 → 0 ≤ s.c i ∧ s.c i ≤ 999) := by
  simp only [stOk, Bool.and_eq_true, decide_eq_true_eq, cellsOk_iff, and_assoc]
/-- Check of code and a state: the error. -/
def rchk (l : List O3) (s : St) : Int := if (chk l).2 = 0 then (if stOk s l.length = true then 0 else 1) else (chk l).2
/-- Check, and what is there to be taken. -/
def gchk (l : List O3) (s : St) (got : Int) (is : Bool) : Int := if rchk l s = 0 then (if is = true ∧ (got < 0 ∨ 999 < got) then 1 else 0) else rchk l s
/-- The cells as an op leaves them. -/
def cellsF (o : O3) (c : Nat → Int) (got : Int) (is : Bool) : Nat → Int :=
  if o.1 = 1 then upd c o.2.1.toNat o.2.2 else if o.1 = 2 then upd c o.2.1.toNat (c o.2.2.toNat) else
  if o.1 = 3 then upd c o.2.1.toNat ((c o.2.1.toNat + c o.2.2.toNat) % 1000) else
  if o.1 = 4 then upd c o.2.1.toNat ((c o.2.1.toNat - c o.2.2.toNat + 1000) % 1000) else
  if o.1 = 5 then upd c o.2.1.toNat ((c o.2.1.toNat * c o.2.2.toNat) % 1000) else
  if o.1 = 9 then (if is = true then upd c o.2.1.toNat got else c) else c
/-- The next place. -/
def nextF (o : O3) (s : St) (n : Nat) (is : Bool) : Int :=
  if o.1 = 7 ∨ (o.1 = 6 ∧ s.c o.2.1.toNat = 0) then o.2.2 else if o.1 = 11 ∨ (o.1 = 9 ∧ is = false) then s.p else if s.p + 1 = n then 0 else s.p + 1
/-- What an op sends. -/
def sentF (o : O3) (c : Nat → Int) : Int := if o.1 = 8 then c o.2.1.toNat else -1
/-- A step of a state that is right. -/
def stepF (o : O3) (s : St) (n : Nat) (got : Int) (is : Bool) : St := if s.f = true then s else ⟨nextF o s n is, cellsF o s.c got is, decide (o.1 = 11)⟩
def sendF (o : O3) (s : St) : Int := if s.f = true then -1 else sentF o s.c
end Go.Proofs.YthbcbdedmillaaaDoor

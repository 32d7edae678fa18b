/-
  Reading a line as a word and numbers: plain mathematics.
-/
import Derived.Test.YtamnfadngbbaeadDoorTextMath
import Derived.Test.YtamnfadngbbaeadDoorCutMath
namespace Go.Proofs.YtamnfadngbbaeadDoor

def numsOf : List (List UInt8) → Option (List Int)
  | [] => some []
  | p :: ps => match numB p with
    | none => none
    | some n => (numsOf ps).map (n :: ·)
/-- A line's body as a word, and numbers. -/
def bodyB (u : List UInt8) : Option (List UInt8 × List Int) := match cutB 32 u with
  | [] => none
  | p :: ps => (numsOf ps).map fun ns => (p, ns)
theorem numsOf_snoc (ps : List (List UInt8)) (ns : List Int) (p : List UInt8) (n : Int) (h : numsOf ps = some ns) (hn : numB p = some n) : numsOf (ps ++ [p]) = some (ns ++ [n]) := by
  induction ps generalizing ns with
  | nil => simp only [numsOf, Option.some.injEq] at h; subst h; simp [numsOf, hn]
  | cons q qs ih =>
    simp only [numsOf] at h
    cases hq : numB q with
    | none => rw [hq] at h; cases h
    | some m =>
      rw [hq] at h
      cases hqs : numsOf qs with
      | none => rw [hqs] at h; cases h
      | some ms =>
        rw [hqs] at h
        simp only [Option.map_some, Option.some.injEq] at h
        subst h
        simp [numsOf, hq, ih ms hqs]
theorem numsOf_bad {ps qs : List (List UInt8)} {p : List UInt8} (hn : numB p = none) : numsOf (ps ++ p :: qs) = none := by
  induction ps with
  | nil => simp [numsOf, hn]
  | cons q rs ih =>
    simp only [List.cons_append, numsOf]
    cases numB q with
    | none => rfl
    | some m => simp [ih]
theorem numsOf_len {ps : List (List UInt8)} {ns : List Int} (h : numsOf ps = some ns) : ns.length = ps.length := by
  induction ps generalizing ns with
  | nil => simp only [numsOf, Option.some.injEq] at h; subst h; rfl
  | cons q qs ih =>
    simp only [numsOf] at h
    cases hq : numB q with
    | none => rw [hq] at h; cases h
    | some m =>
      rw [hq] at h
      cases hqs : numsOf qs with
      | none => rw [hqs] at h; cases h
      | some ms =>
        rw [hqs] at h
        simp only [Option.map_some, Option.some.injEq] at h
        subst h
        simp [ih hqs]
theorem bodyB_no {u : List UInt8} (h : (32 : UInt8) ∉ u) : bodyB u = some (u, []) := by
  unfold bodyB cutB
  rw [cutGo_none 32 u [] h]
  rfl
theorem bodyB_at {a v : List UInt8} (h : (32 : UInt8) ∉ a) : bodyB (a ++ 32 :: v) = (numsOf (cutB 32 v)).map fun ns => (a, ns) := by
  unfold bodyB
  rw [show cutB 32 (a ++ 32 :: v) = a :: cutB 32 v from cutGo_at 32 a [] v h]

/-- A line as a word, and numbers. -/
def readB (l : List UInt8) : Option (List UInt8 × List Int) := if l.getLast? = some 10 then bodyB l.dropLast else none
theorem readB_snoc (u : List UInt8) : readB (u ++ [10]) = bodyB u := by simp [readB]
theorem readB_none {l : List UInt8} (h : ∀ u, l ≠ u ++ [10]) : readB l = none := by
  unfold readB
  rw [if_neg]
  intro e
  obtain ⟨u, hu⟩ := List.getLast?_eq_some_iff.1 e
  exact h u hu
/-- One number more, where its bound is not 1. -/
def stepN (p : Int) (ns : List Int) : Option (Int × List Int) := if p = 1 then some (0, ns) else match ns with | [] => none | x :: r => some (x, r)
theorem stepN_one (ns : List Int) : stepN 1 ns = some (0, ns) := rfl
theorem stepN_nil {p : Int} (h : p ≠ 1) : stepN p [] = none := by simp [stepN, h]
theorem stepN_cons {p : Int} (h : p ≠ 1) (x : Int) (r : List Int) : stepN p (x :: r) = some (x, r) := by simp [stepN, h]
def asm2 (p q k : Int) (ns : List Int) : Option O3 := match stepN p ns with
  | none => none
  | some (a, r) => match stepN q r with
    | none => none
    | some (b, r') => if r' = [] then some (k, a, b) else none
/-- An op of its What, and the numbers said. -/
def asm (k : Int) (ns : List Int) : Option O3 := if k = 0 then none else asm2 (pA k) (pB k) k ns
/-- A line as an op. -/
def opRead (l : List UInt8) : Option O3 := match readB l with
  | none => none
  | some (p, ns) => asm (namedB p) ns
end Go.Proofs.YtamnfadngbbaeadDoor
